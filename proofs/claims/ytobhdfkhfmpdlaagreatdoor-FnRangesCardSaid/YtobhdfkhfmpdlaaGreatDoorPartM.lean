/-
  CONTRACTS AND PLAIN FACTS, several texts in one; each says in its own words what it proves.
-/
import Derived.Test.YtobhdfkhfmpdlaaGreatDoorPartK
import Derived.Test.YtobhdfkhfmpdlaaGreatDoorPartF
import Derived.Laws.DeepStrings4
import Derived.Test.YtobhdfkhfmpdlaaGreatDoorPartA
import Derived.WalkKit
import Derived.LaidEql
import Derived.LaidMore
import Derived.Stop.LaidErr
import Derived.Stop.Asserts
import Derived.RowKitTokens
import Derived.Test.YtobhdfkhfmpdlaaGreatDoorPartH
import Derived.Test.YtobhdfkhfmpdlaaGreatDoorPartC
import Derived.Test.YtobhdfkhfmpdlaaGreatDoorPartG
import Derived.LoopTactic
import Derived.Outline
import Derived.RegionTactic
import Derived.IntWalk
set_option linter.unusedSimpArgs false
set_option linter.unusedVariables false

/-
  CONTRACTS of ParseContentRange, the model's and the program's; nothing that was there before is changed.
-/
namespace Go.Proofs.YtobhdfkhfmpdlaaGreatDoor.Rng
open Go Go.RowKit
set_option linter.unusedVariables false
set_option maxRecDepth 1000000

def preC : List UInt8 := [98, 121, 116, 101, 115, 32]
def pcrOf (x1 : List UInt8) (n : Int × Bool) : (Int × Int) × Int × Bool :=
  if n.2 = true then (if x1 = [42] then ((0, 0), n.1, true) else if (pask x1).2 = true ∧ 0 ≤ (pask x1).1.1 ∧ 0 ≤ (pask x1).1.2 ∧ (pask x1).1.2 < n.1 then (((pask x1).1.1, (pask x1).1.2 + 1), n.1, true) else ((0, 0), 0, false)) else ((0, 0), 0, false)
def pcr (l : List UInt8) : (Int × Int) × Int × Bool := if Lib.hasPrefix l preC = true then pcrOf (Tx.cutAt 47 (Lib.trimPrefix l preC)).1 (pin (Tx.cutAt 47 (Lib.trimPrefix l preC)).2.1) else ((0, 0), 0, false)
def PcrEnd (l : List UInt8) (w : World) (e : Ending) (w' : World) : Prop := e = .returned (.tuple #[.agg #[.int .i64 (pcr l).1.1, .int .i64 (pcr l).1.2], .int .i64 (pcr l).2.1, .bool (pcr l).2.2]) ∧ Below w.heap.size w w'
theorem pcr_ret {l : List UInt8} {p q n : Int} {b : Bool} (h : pcr l = ((p, q), n, b)) : Ending.returned (.tuple #[.agg #[.int .i64 p, .int .i64 q], .int .i64 n, .bool b]) = .returned (.tuple #[.agg #[.int .i64 (pcr l).1.1, .int .i64 (pcr l).1.2], .int .i64 (pcr l).2.1, .bool (pcr l).2.2]) := by rw [h]
/-- A span in a block of its own. -/
def SBox (g : Nat) (p q : Int) (w : World) : Prop := w.heap[g]? = some (.cells #[.int .i64 p, .int .i64 q] 35 (0, 0))
theorem sbox_new (w : World) (p q : Int) : SBox w.heap.size p q (w.alloc (.cells #[.int .i64 p, .int .i64 q] 35)) := heap_alloc_new w _
theorem sbox_lt {g : Nat} {p q : Int} {w : World} (h : SBox g p q w) : g < w.heap.size := by
  rcases Nat.lt_or_ge g w.heap.size with h' | h'
  · exact h'
  · unfold SBox at h; rw [Array.getElem?_eq_none h'] at h; cases h
theorem sbox_keep {g : Nat} {p q : Int} {w w' : World} (h : SBox g p q w) (hb : Below w.heap.size w w') : SBox g p q w' := (hb.block g (sbox_lt h)).trans h
theorem sbox_facts {g : Nat} {p q : Int} {w : World} (h : SBox g p q w) : (w.cell? ⟨g, 0, none⟩ = some (.int .i64 p) ∧ w.cell? ⟨g, 1, none⟩ = some (.int .i64 q)) ∧ w.frozen? ⟨g, 0, none⟩ = false ∧ w.frozen? ⟨g, 1, none⟩ = false :=
  ⟨⟨cell_of_row w g 0 _ _ (0, 0) h, cell_of_row w g 1 _ _ (0, 0) h⟩, frozen_of_row w g 0 _ _ h, frozen_of_row w g 1 _ _ h⟩
theorem hasC (l : List UInt8) : Lib.hasPrefix l preC = (l.take 6 == preC) := by
  unfold Lib.hasPrefix
  rw [Bool.eq_iff_iff, List.isPrefixOf_iff_prefix, List.prefix_iff_eq_take, beq_iff_eq]
  exact ⟨fun h => h.symm, fun h => h.symm⟩
theorem trim_leC (l p : List UInt8) : (Lib.trimPrefix l p).length ≤ l.length := by unfold Lib.trimPrefix; split <;> simp

set_option maxRecDepth 1000000 in
set_option maxHeartbeats 8000000 in
theorem impl_pcr (l : List UInt8) (w : World) (hl : l.length ≤ 1048576) (ht : Fmt.Tens w) (he : Par.Errs w) :
    Calls Tryz.prog 11 #[.string ⟨l.toArray⟩] w (PcrEnd l w) := by
  have HA : Hid (Below w.heap.size w (w.alloc (.cells #[.int .i64 0, .int .i64 0] 35))) := Lib.hid ((Below.refl _ _).alloc (Nat.le_refl _) _)
  have HBX := Lib.hid (sbox_new w 0 0)
  have HTE := Lib.hid (fun W (hb : Below w.heap.size w W) => And.intro (Fmt.tens_below ht hb) (Par.errs_below he hb))
  have C1 : Hid (∀ W : World, Calls Tryz.prog 13 #[.string ⟨l.toArray⟩, .string ⟨#[98, 121, 116, 101, 115, 32]⟩] W fun e w' => e = .returned (.tuple #[.string ⟨(Lib.trimPrefix l preC).toArray⟩, .bool (Lib.hasPrefix l preC)]) ∧ w' = W) := Lib.hid (fun W => Tryz.strings_CutPrefix ⟨l.toArray⟩ ⟨#[98, 121, 116, 101, 115, 32]⟩ W)
  have hlr := Nat.le_trans (trim_leC l preC) hl
  have HP : Hid (pcr l = if Lib.hasPrefix l preC = true then pcrOf (Tx.cutAt 47 (Lib.trimPrefix l preC)).1 (pin (Tx.cutAt 47 (Lib.trimPrefix l preC)).2.1) else ((0, 0), 0, false)) := Lib.hid rfl
  generalize Lib.trimPrefix l preC = r at C1 HP hlr
  generalize Lib.hasPrefix l preC = fd at C1 HP
  have hcl := Tx.cutAt_len 47 r
  have c2 := fun W => Tx.cut_any ⟨r.toArray⟩ 47 W (by simp [ByteArray.size]; omega)
  have HC : Hid (∀ W : World, Calls Tryz.prog 30 #[.string ⟨r.toArray⟩, .string ⟨#[47]⟩] W fun e w' => e = .returned (.tuple #[.string ⟨(Tx.cutAt 47 r).1.toArray⟩, .string ⟨(Tx.cutAt 47 r).2.1.toArray⟩, .bool (Tx.cutAt 47 r).2.2]) ∧ Below W.heap.size W w') := Lib.hid (fun W => c2 W)
  generalize Tx.cutAt 47 r = x at HC HP hcl
  obtain ⟨x1, x2, fnd⟩ := x
  simp only at HC HP hcl
  have HI := Lib.hid (fun W (hb : Below w.heap.size w W) => impl_pin x2 W (by omega) (HTE.out W hb).1 (HTE.out W hb).2)
  have HK := Lib.hid (fun W (hb : Below w.heap.size w W) => impl_ask x1 W (by omega) (HTE.out W hb).1 (HTE.out W hb).2)
  unfold PinEnd at HI
  unfold AskEnd at HK
  have hpn := pin_nn x2
  unfold pcrOf at HP
  generalize pin x2 = n at HI HP hpn
  obtain ⟨p, b⟩ := n
  simp only at HI HP hpn
  have HPN := Lib.hid hpn
  clear hl ht he hcl c2 HTE hlr
  cases fd with
  | false =>
    have HE : Hid (pcr l = ((0, 0), 0, false)) := Lib.hid (by rw [HP.out]; simp)
    go_enter Tryz.func11, Tryz.ntmps11
    go_wp2_with (fail)
    go_at_call 13
    refine (C1.out _).mono ?_
    rintro e w0 ⟨rfl, hw⟩
    rw [hw]
    clear hw C1
    go_wp2_with (fail)
    go_at_call 30
    refine (HC.out _).mono ?_
    rintro e w2 ⟨rfl, k1⟩
    have HBX := Lib.hid (sbox_keep HBX.out k1)
    have HB := Lib.hid (Base.then_below HA.out k1)
    clear k1 HC
    go_wp2_with (fail)
    go_at_call 31
    refine (HI.out _ HB.out).mono ?_
    rintro e w3 ⟨rfl, k1⟩
    have HBX := Lib.hid (sbox_keep HBX.out k1)
    have HB := Lib.hid (Base.then_below HB.out k1)
    obtain ⟨⟨q0, q1⟩, z0, z1⟩ := sbox_facts HBX.out
    clear k1
    clear HI
    go_wp2
    refine bodyPost_ret (v := .tuple #[.agg #[.int .i64 (0), .int .i64 (0)], .int .i64 (0), .bool false]) (by simp [results, Tryz.results11, go_sem, q0, q1]) rfl ⟨pcr_ret HE.out, ?_⟩
    first | exact (HB.out.setCell (Nat.le_refl _) _).setCell (Nat.le_refl _) _ | exact ((HB.out.alloc HB.out.size _).setCell (Nat.le_refl _) _).setCell (Nat.le_refl _) _ | exact HB.out | exact HB.out.alloc HB.out.size _
  | true =>
    cases b with
    | false =>
      have HE : Hid (pcr l = ((0, 0), 0, false)) := Lib.hid (by rw [HP.out]; simp)
      go_enter Tryz.func11, Tryz.ntmps11
      go_wp2_with (fail)
      go_at_call 13
      refine (C1.out _).mono ?_
      rintro e w0 ⟨rfl, hw⟩
      rw [hw]
      clear hw C1
      go_wp2_with (fail)
      go_at_call 30
      refine (HC.out _).mono ?_
      rintro e w2 ⟨rfl, k1⟩
      have HBX := Lib.hid (sbox_keep HBX.out k1)
      have HB := Lib.hid (Base.then_below HA.out k1)
      clear k1 HC
      go_wp2_with (fail)
      go_at_call 31
      refine (HI.out _ HB.out).mono ?_
      rintro e w3 ⟨rfl, k1⟩
      have HBX := Lib.hid (sbox_keep HBX.out k1)
      have HB := Lib.hid (Base.then_below HB.out k1)
      obtain ⟨⟨q0, q1⟩, z0, z1⟩ := sbox_facts HBX.out
      clear k1
      clear HI
      go_wp2
      refine bodyPost_ret (v := .tuple #[.agg #[.int .i64 (0), .int .i64 (0)], .int .i64 (0), .bool false]) (by simp [results, Tryz.results11, go_sem, q0, q1]) rfl ⟨pcr_ret HE.out, ?_⟩
      first | exact (HB.out.setCell (Nat.le_refl _) _).setCell (Nat.le_refl _) _ | exact ((HB.out.alloc HB.out.size _).setCell (Nat.le_refl _) _).setCell (Nat.le_refl _) _ | exact HB.out | exact HB.out.alloc HB.out.size _
    | true =>
      by_cases hst : x1 = [42]
      · have HE : Hid (pcr l = ((0, 0), p, true)) := Lib.hid (by rw [HP.out]; simp [hst])
        subst hst
        go_enter Tryz.func11, Tryz.ntmps11
        go_wp2_with (fail)
        go_at_call 13
        refine (C1.out _).mono ?_
        rintro e w0 ⟨rfl, hw⟩
        rw [hw]
        clear hw C1
        go_wp2_with (fail)
        go_at_call 30
        refine (HC.out _).mono ?_
        rintro e w2 ⟨rfl, k1⟩
        have HBX := Lib.hid (sbox_keep HBX.out k1)
        have HB := Lib.hid (Base.then_below HA.out k1)
        clear k1 HC
        go_wp2_with (fail)
        go_at_call 31
        refine (HI.out _ HB.out).mono ?_
        rintro e w3 ⟨rfl, k1⟩
        have HBX := Lib.hid (sbox_keep HBX.out k1)
        have HB := Lib.hid (Base.then_below HB.out k1)
        obtain ⟨⟨q0, q1⟩, z0, z1⟩ := sbox_facts HBX.out
        clear k1
        clear HI
        go_wp2
        refine bodyPost_ret (v := .tuple #[.agg #[.int .i64 (0), .int .i64 (0)], .int .i64 (p), .bool true]) (by simp [results, Tryz.results11, go_sem, q0, q1]) rfl ⟨pcr_ret HE.out, ?_⟩
        first | exact (HB.out.setCell (Nat.le_refl _) _).setCell (Nat.le_refl _) _ | exact ((HB.out.alloc HB.out.size _).setCell (Nat.le_refl _) _).setCell (Nat.le_refl _) _ | exact HB.out | exact HB.out.alloc HB.out.size _
      · have hq : (x1 == [42]) = false := by simpa using hst
        have HPP : Hid (pcr l = if (pask x1).2 = true ∧ 0 ≤ (pask x1).1.1 ∧ 0 ≤ (pask x1).1.2 ∧ (pask x1).1.2 < p then (((pask x1).1.1, (pask x1).1.2 + 1), p, true) else ((0, 0), 0, false)) := Lib.hid (by rw [HP.out, if_pos rfl, if_pos rfl, if_neg hst])
        generalize pask x1 = a at HK HPP
        obtain ⟨⟨a1, a2⟩, ok⟩ := a
        simp only at HK HPP
        clear hst HP
        go_enter Tryz.func11, Tryz.ntmps11
        go_wp2_with (fail)
        go_at_call 13
        refine (C1.out _).mono ?_
        rintro e w0 ⟨rfl, hw⟩
        rw [hw]
        clear hw C1
        go_wp2_with (fail)
        go_at_call 30
        refine (HC.out _).mono ?_
        rintro e w2 ⟨rfl, k1⟩
        have HBX := Lib.hid (sbox_keep HBX.out k1)
        have HB := Lib.hid (Base.then_below HA.out k1)
        clear k1 HC
        go_wp2_with (fail)
        go_at_call 31
        refine (HI.out _ HB.out).mono ?_
        rintro e w3 ⟨rfl, k1⟩
        have HBX := Lib.hid (sbox_keep HBX.out k1)
        have HB := Lib.hid (Base.then_below HB.out k1)
        have h3 := HPN.out
        clear k1 HI
        cases ok with
        | false =>
          have HE : Hid (pcr l = ((0, 0), 0, false)) := Lib.hid (by rw [HPP.out]; simp)
          go_wp2_with (fail)
          go_at_call 15
          refine (HK.out _ HB.out).mono ?_
          rintro e w4 ⟨rfl, k1⟩
          have HBX := Lib.hid (sbox_keep HBX.out k1)
          have HB := Lib.hid (Base.then_below HB.out k1)
          have HB := Lib.hid (HB.out.alloc HB.out.size (.cells #[.int .i64 a1, .int .i64 a2] 30))
          have HBX2 := Lib.hid (sbox_keep HBX.out ((Below.refl w4.heap.size w4).alloc (Nat.le_refl _) (.cells #[.int .i64 a1, .int .i64 a2] 30)))
          obtain ⟨⟨q0, q1⟩, z0, z1⟩ := sbox_facts HBX2.out
          clear k1
          go_wp2
          refine bodyPost_ret (v := .tuple #[.agg #[.int .i64 (0), .int .i64 (0)], .int .i64 (0), .bool false]) (by simp [results, Tryz.results11, go_sem, q0, q1]) rfl ⟨pcr_ret HE.out, ?_⟩
          first | exact (HB.out.setCell (Nat.le_refl _) _).setCell (Nat.le_refl _) _ | exact ((HB.out.alloc HB.out.size _).setCell (Nat.le_refl _) _).setCell (Nat.le_refl _) _ | exact HB.out | exact HB.out.alloc HB.out.size _
        | true =>
          by_cases g1 : a1 < 0
          · have HE : Hid (pcr l = ((0, 0), 0, false)) := Lib.hid (by rw [HPP.out, if_neg (by rintro ⟨_, h, _⟩; omega)])
            go_wp2_with (fail)
            go_at_call 15
            refine (HK.out _ HB.out).mono ?_
            rintro e w4 ⟨rfl, k1⟩
            have HBX := Lib.hid (sbox_keep HBX.out k1)
            have HB := Lib.hid (Base.then_below HB.out k1)
            have HB := Lib.hid (HB.out.alloc HB.out.size (.cells #[.int .i64 a1, .int .i64 a2] 30))
            have HBX2 := Lib.hid (sbox_keep HBX.out ((Below.refl w4.heap.size w4).alloc (Nat.le_refl _) (.cells #[.int .i64 a1, .int .i64 a2] 30)))
            obtain ⟨⟨q0, q1⟩, z0, z1⟩ := sbox_facts HBX2.out
            clear k1
            go_wp2
            refine bodyPost_ret (v := .tuple #[.agg #[.int .i64 (0), .int .i64 (0)], .int .i64 (0), .bool false]) (by simp [results, Tryz.results11, go_sem, q0, q1]) rfl ⟨pcr_ret HE.out, ?_⟩
            first | exact (HB.out.setCell (Nat.le_refl _) _).setCell (Nat.le_refl _) _ | exact ((HB.out.alloc HB.out.size _).setCell (Nat.le_refl _) _).setCell (Nat.le_refl _) _ | exact HB.out | exact HB.out.alloc HB.out.size _
          by_cases g2 : a2 < 0
          · have HE : Hid (pcr l = ((0, 0), 0, false)) := Lib.hid (by rw [HPP.out, if_neg (by rintro ⟨_, _, h, _⟩; omega)])
            go_wp2_with (fail)
            go_at_call 15
            refine (HK.out _ HB.out).mono ?_
            rintro e w4 ⟨rfl, k1⟩
            have HBX := Lib.hid (sbox_keep HBX.out k1)
            have HB := Lib.hid (Base.then_below HB.out k1)
            have HB := Lib.hid (HB.out.alloc HB.out.size (.cells #[.int .i64 a1, .int .i64 a2] 30))
            have HBX2 := Lib.hid (sbox_keep HBX.out ((Below.refl w4.heap.size w4).alloc (Nat.le_refl _) (.cells #[.int .i64 a1, .int .i64 a2] 30)))
            obtain ⟨⟨q0, q1⟩, z0, z1⟩ := sbox_facts HBX2.out
            clear k1
            go_wp2
            refine bodyPost_ret (v := .tuple #[.agg #[.int .i64 (0), .int .i64 (0)], .int .i64 (0), .bool false]) (by simp [results, Tryz.results11, go_sem, q0, q1]) rfl ⟨pcr_ret HE.out, ?_⟩
            first | exact (HB.out.setCell (Nat.le_refl _) _).setCell (Nat.le_refl _) _ | exact ((HB.out.alloc HB.out.size _).setCell (Nat.le_refl _) _).setCell (Nat.le_refl _) _ | exact HB.out | exact HB.out.alloc HB.out.size _
          by_cases g3 : p ≤ a2
          · have HE : Hid (pcr l = ((0, 0), 0, false)) := Lib.hid (by rw [HPP.out, if_neg (by rintro ⟨_, _, _, h⟩; omega)])
            go_wp2_with (fail)
            go_at_call 15
            refine (HK.out _ HB.out).mono ?_
            rintro e w4 ⟨rfl, k1⟩
            have HBX := Lib.hid (sbox_keep HBX.out k1)
            have HB := Lib.hid (Base.then_below HB.out k1)
            have HB := Lib.hid (HB.out.alloc HB.out.size (.cells #[.int .i64 a1, .int .i64 a2] 30))
            have HBX2 := Lib.hid (sbox_keep HBX.out ((Below.refl w4.heap.size w4).alloc (Nat.le_refl _) (.cells #[.int .i64 a1, .int .i64 a2] 30)))
            obtain ⟨⟨q0, q1⟩, z0, z1⟩ := sbox_facts HBX2.out
            clear k1
            go_wp2
            refine bodyPost_ret (v := .tuple #[.agg #[.int .i64 (0), .int .i64 (0)], .int .i64 (0), .bool false]) (by simp [results, Tryz.results11, go_sem, q0, q1]) rfl ⟨pcr_ret HE.out, ?_⟩
            first | exact (HB.out.setCell (Nat.le_refl _) _).setCell (Nat.le_refl _) _ | exact ((HB.out.alloc HB.out.size _).setCell (Nat.le_refl _) _).setCell (Nat.le_refl _) _ | exact HB.out | exact HB.out.alloc HB.out.size _
          have HE : Hid (pcr l = ((a1, a2 + 1), p, true)) := Lib.hid (by rw [HPP.out, if_pos ⟨rfl, by omega, by omega, by omega⟩])
          have g4 : 0 ≤ a2 := by omega
          have g5 : a2 ≤ 1000000000000 := by omega
          go_wp2_with (fail)
          go_at_call 15
          refine (HK.out _ HB.out).mono ?_
          rintro e w4 ⟨rfl, k1⟩
          have HBX := Lib.hid (sbox_keep HBX.out k1)
          have HB := Lib.hid (Base.then_below HB.out k1)
          have HB := Lib.hid (HB.out.alloc HB.out.size (.cells #[.int .i64 a1, .int .i64 a2] 30))
          have HBX2 := Lib.hid (sbox_keep HBX.out ((Below.refl w4.heap.size w4).alloc (Nat.le_refl _) (.cells #[.int .i64 a1, .int .i64 a2] 30)))
          obtain ⟨⟨q0, q1⟩, z0, z1⟩ := sbox_facts HBX2.out
          clear k1
          go_wp2
          refine bodyPost_ret (v := .tuple #[.agg #[.int .i64 (a1), .int .i64 (a2 + 1)], .int .i64 (p), .bool true]) (by simp [results, Tryz.results11, go_sem, q0, q1]) rfl ⟨pcr_ret HE.out, ?_⟩
          first | exact (HB.out.setCell (Nat.le_refl _) _).setCell (Nat.le_refl _) _ | exact ((HB.out.alloc HB.out.size _).setCell (Nat.le_refl _) _).setCell (Nat.le_refl _) _ | exact HB.out | exact HB.out.alloc HB.out.size _

/-- Where the slash stands, behind the beginning. -/
theorem pcr_cut {l : List UInt8} {k : Nat} (hk : k < l.length) (h1 : ∀ j (hj : j < l.length), j < k → l[j] ≠ 47) (h2 : ∀ h : k < l.length, l[k] = 47) (hp : Lib.hasPrefix l preC = true) (h6 : 6 ≤ k) :
    pcr l = pcrOf ((l.drop 6).take (k - 6)) (pin (l.drop (k + 1))) := by
  have e1 : Lib.trimPrefix l preC = l.drop 6 := by unfold Lib.trimPrefix; rw [if_pos hp]; rfl
  have hi : Tx.idx 47 (l.drop 6) = k - 6 := Tx.idx_eq (by rw [List.length_drop]; omega) (fun j hj hlt => by rw [List.getElem_drop]; exact h1 _ _ (by omega)) (fun h => by
    rw [List.getElem_drop]
    have e : 6 + (k - 6) = k := by omega
    simp only [e]; exact h2 hk)
  have e2 : Tx.cutAt 47 (l.drop 6) = ((l.drop 6).take (k - 6), l.drop (k + 1), true) := by
    unfold Tx.cutAt; rw [hi, if_pos (by rw [List.length_drop]; omega), List.drop_drop, show 6 + (k - 6 + 1) = k + 1 by omega]
  unfold pcr
  rw [if_pos hp, e1, e2]
theorem pcr_nop {l : List UInt8} (hp : Lib.hasPrefix l preC = false) : pcr l = ((0, 0), 0, false) := by unfold pcr; rw [hp]; rfl
theorem pask_nil : pask [] = ((0, 0), false) := pask_none (by simp [Tx.idx])
theorem pcr_none {l : List UInt8} {k : Nat} (hk : k ≤ l.length) (h1 : ∀ j (hj : j < l.length), j < k → l[j] ≠ 47) (h2 : ∀ h : k < l.length, l[k] = 47) (h : k = l.length ∨ k < 7 ∨ (l.take 6 == preC) = false) : pcr l = ((0, 0), 0, false) := by
  cases hp : Lib.hasPrefix l preC with
  | false => exact pcr_nop hp
  | true =>
    have ht : l.take 6 = preC := by rw [hasC, beq_iff_eq] at hp; exact hp
    have hlen : 6 ≤ l.length := by have := congrArg List.length ht; rw [List.length_take] at this; unfold preC at this; simp at this; omega
    have h6 : 6 ≤ k := by
      rcases Nat.lt_or_ge k 6 with hlt | hge
      · exfalso
        have hkl : k < l.length := by omega
        have e := h2 hkl
        have e3 : (l.take 6)[k]? = some 47 := by rw [List.getElem?_take, if_pos hlt, List.getElem?_eq_getElem hkl, e]
        rw [ht] at e3
        unfold preC at e3
        match k, hlt, e3 with
        | 0, _, e3 => simp at e3
        | 1, _, e3 => simp at e3
        | 2, _, e3 => simp at e3
        | 3, _, e3 => simp at e3
        | 4, _, e3 => simp at e3
        | 5, _, e3 => simp at e3
      · exact hge
    rcases h with h | h | h
    · have e1 : Lib.trimPrefix l preC = l.drop 6 := by unfold Lib.trimPrefix; rw [if_pos hp]; rfl
      have hi : Tx.idx 47 (l.drop 6) = (l.drop 6).length := Tx.idx_eq (Nat.le_refl _) (fun j hj hlt => by rw [List.getElem_drop]; exact h1 _ _ (by rw [List.length_drop] at hj; omega)) (fun h => absurd h (Nat.lt_irrefl _))
      have e2 : Tx.cutAt 47 (l.drop 6) = (l.drop 6, [], false) := by unfold Tx.cutAt; rw [hi, if_neg (Nat.lt_irrefl _)]
      unfold pcr
      rw [if_pos hp, e1, e2]
      unfold pcrOf
      rw [pin_nil]; rfl
    · rcases Nat.lt_or_ge k l.length with hkl | hkl
      · rw [pcr_cut hkl h1 h2 hp h6]
        have : k - 6 = 0 := by omega
        rw [this, List.take_zero]
        unfold pcrOf
        rw [pask_nil]
        split
        · simp
        · rfl
      · have hke : k = l.length := by omega
        have e1 : Lib.trimPrefix l preC = l.drop 6 := by unfold Lib.trimPrefix; rw [if_pos hp]; rfl
        have hi : Tx.idx 47 (l.drop 6) = (l.drop 6).length := Tx.idx_eq (Nat.le_refl _) (fun j hj hlt => by rw [List.getElem_drop]; exact h1 _ _ (by rw [List.length_drop] at hj; omega)) (fun h => absurd h (Nat.lt_irrefl _))
        have e2 : Tx.cutAt 47 (l.drop 6) = (l.drop 6, [], false) := by unfold Tx.cutAt; rw [hi, if_neg (Nat.lt_irrefl _)]
        unfold pcr
        rw [if_pos hp, e1, e2]
        unfold pcrOf
        rw [pin_nil]; rfl
    · rw [ht] at h; simp at h

end Go.Proofs.YtobhdfkhfmpdlaaGreatDoor.Rng

/-
  CONTRACTS of errors.Is where the target is the program's error errNoBytes: at that error itself, and at no error. And WHAT the contracts ask of the world: that error is there, a pointer of the library's own make.
-/
namespace Go.Proofs.YtobhdfkhfmpdlaaGreatDoor.Rng
open Go Go.RowKit
set_option linter.unusedVariables false
set_option maxRecDepth 1000000

section
open Go.Extern.Stop Go.Stop Go.Extern
-- 9: how many package-level variables this seat's dump has (another seat: another number)
theorem is_typeOf (v : Value) (w : World) : (Extern.ReflectliteType.typeOf #[.iface 145 v]).run Tryz.prog w = .ok (.iface 92 (.agg #[.pointer (some ⟨9, 145, none⟩)])) w := by kernel_rfl
theorem is_ext (w : World) : (((Extern.ReflectliteType.method fun t => do Extern.Rtype.noPackHeld "Comparable" t; pure (.bool (← typeInfo t).comparable)) #[.agg #[.pointer (some ⟨9, 145, none⟩)]]).run Tryz.prog w).andThen (fun v w' => .ok (Next.value v) w') = .ok (.value (.bool true)) w := by kernel_rfl
theorem is_call (w : World) : (callFunc 130 #[.agg #[.pointer (some ⟨9, 145, none⟩)]]).run Tryz.prog w = .ok (.value (.bool true)) w := by
  have h32 := @run_callFunc_extern Tryz.prog 130 _ (Extern.ReflectliteType.method fun t => do Extern.Rtype.noPackHeld "Comparable" t; pure (.bool (← typeInfo t).comparable)) Tryz.func130 (by kernel_rfl) (by kernel_rfl) (by kernel_rfl) (by kernel_rfl)
  refine (h32 _ _).trans ?_
  exact is_ext w
theorem is_comp : (Tryz.prog.info? 145).map (·.comparable) = some true := by kernel_rfl
theorem is_size : (Tryz.prog.info? 147).map (·.size) = some 1 := by kernel_rfl
theorem is_method (n : Nat) (v : Value) (w : World) : (Go.method (n + 1) 92 v "Comparable").run Tryz.prog w = .ok (130, v) w := by kernel_rfl

set_option maxRecDepth 1000000 in
theorem is_same (a : Addr) (w : World) :
    Calls Tryz.prog 29 #[.iface 145 (.pointer (some a)), .iface 145 (.pointer (some a))] w fun e w' => e = .returned (.bool true) ∧ w' = w := by
  obtain ⟨i, hi, hcmp⟩ := Option.map_eq_some_iff.1 is_comp
  obtain ⟨j, hj, hjs⟩ := Option.map_eq_some_iff.1 is_size
  have h8 := @run_callFunc_extern Tryz.prog 45 _ Extern.ReflectliteType.typeOf Tryz.func45 (by kernel_rfl) (by kernel_rfl) (by kernel_rfl) (by kernel_rfl)
  have tT := is_typeOf
  have cT := is_call
  have mR := is_method
  have heq := run_eql_iface_ptr_same (P := Tryz.prog) w a Tryz.underlying57 Tryz.underlying145 hi hcmp hj
  go_enter Tryz.func29, Tryz.ntmps29
  go_wp2
  refine wp_loop_rounds 1 ?_
  rw [rounds_succ]
  go_wp2
  go_ret
  exact ⟨rfl, rfl⟩

set_option maxRecDepth 1000000 in
theorem is_nil (b : Addr) (w : World) :
    Calls Tryz.prog 29 #[.nilIface, .iface 145 (.pointer (some b))] w fun e w' => e = .returned (.bool false) ∧ w' = w := by
  have hn := run_eql_iface_nil_left (P := Tryz.prog) w 145 (.pointer (some b)) Tryz.underlying57
  go_enter Tryz.func29, Tryz.ntmps29
  go_wp2
  go_ret
  exact ⟨rfl, rfl⟩
end
end Go.Proofs.YtobhdfkhfmpdlaaGreatDoor.Rng

/-
  WHAT the program's error errNoBytes is in the world; the span that an ask means; CONTRACTS of the program's askedSpan and resolveAsk; nothing that was there before is changed.
-/
namespace Go.Proofs.YtobhdfkhfmpdlaaGreatDoor.Rng
open Go Go.RowKit
set_option linter.unusedVariables false
set_option maxRecDepth 1000000

/-- The program's error is there: a pointer of the library's own make. -/
def NoB (w : World) (a : Addr) : Prop := 0 < w.heap.size ∧ w.cell? ⟨0, 0, none⟩ = some (.iface 145 (.pointer (some a)))
theorem nob_below {w w' : World} {a : Addr} (h : NoB w a) (hb : Below w.heap.size w w') : NoB w' a :=
  ⟨Nat.lt_of_lt_of_le h.1 hb.size, (hb.cell (p := ⟨0, 0, none⟩) h.1).trans h.2⟩
theorem nob_of_var {P : Program} {w : World} {name : String} {a : Addr} (hg : P.globalNamed name = some 0) (h : w.var? P name = some #[.iface 145 (.pointer (some a))]) : NoB w a := by
  unfold World.var? at h
  rw [hg] at h
  simp only [Option.bind_some] at h
  have hlt : 0 < w.heap.size := by
    rcases Nat.lt_or_ge 0 w.heap.size with h' | h'
    · exact h'
    · rw [Array.getElem?_eq_none h'] at h; simp at h
  refine ⟨hlt, ?_⟩
  unfold World.cell?
  rw [Array.getElem?_eq_getElem hlt] at h ⊢
  simp only [Option.bind_some] at h ⊢
  revert h
  cases w.heap[0] with
  | cells cs ty fz => intro h; simp [Obj.cells] at h ⊢; subst h; rfl
  | _ => intro h; simp at h
theorem nob_head {P : Program} {w : World} {n : String} {d : DataW Unit} : ∀ {l : List (String × DataW Unit)}, laidMet P l w → (n, d) ∈ l → ∃ r, laidMet P ((n, d) :: r) w
  | [], _, hm => by cases hm
  | x :: r, h, hm => by
    rcases List.mem_cons.1 hm with e | e
    · cases e; exact ⟨r, h⟩
    · exact nob_head h.tail e
theorem laid_nob {l : List (String × DataW Unit)} {W : World} (h : laidMet Tryz.prog l W) (h1 : ("loop.example/g03012/impl.errNoBytes", Rows.laid_loop_example_g03012_impl_errNoBytes) ∈ l) : ∃ a, NoB W a := by
  obtain ⟨r1, k1⟩ := nob_head h h1
  have row : ∀ u, Tryz.prog.typeName? 3 u = some "*errors.errorString" → u = 145 :=
    fun u hu => typeName_ptr_named (nm := "errors.errorString") (by kernel_rfl) (by kernel_rfl) (by decide) u hu
  have g1 : Tryz.prog.globalNamed "loop.example/g03012/impl.errNoBytes" = some 0 := by kernel_rfl
  obtain ⟨a1, s1, v1, _⟩ := laid_sentinel k1 g1 (show (Tryz.prog.globals[0]?).map (·.type) = some 57 by kernel_rfl) Tryz.underlying57 row Tryz.underlying145 Tryz.underlying147 rfl rfl Tryz.underlying9 (by kernel_rfl) (by kernel_rfl)
  exact ⟨a1, nob_of_var g1 v1⟩

/-- The span that an ask means. -/
def askd (x y n : Int) : Int × Int :=
  if x < 0 ∧ y < 0 then (0, 0) else if x < 0 ∧ n < y then (0, n) else if x < 0 then (RowKit.wrap64 (n - y), n) else if y < 0 ∨ n ≤ y then (x, n) else (x, RowKit.wrap64 (y + 1))

def AskdEnd (p q : Int) (w : World) (e : Ending) (w' : World) : Prop := e = .returned (.agg #[.int .i64 p, .int .i64 q]) ∧ Below w.heap.size w w'
set_option maxHeartbeats 4000000 in
theorem impl_askd (x y n : Int) (w : World) :
    Calls Tryz.prog 44 #[.agg #[.int .i64 x, .int .i64 y], .int .i64 n] w (AskdEnd (askd x y n).1 (askd x y n).2 w) := by
  by_cases h1 : x < 0
  · by_cases h2 : y < 0
    · have HE := Lib.hid (show askd x y n = (0, 0) by unfold askd; rw [if_pos ⟨h1, h2⟩])
      rw [HE.out]
      go_enter Tryz.func44, Tryz.ntmps44
      go_wp2
      refine bodyPost_ret (v := .agg #[.int .i64 0, .int .i64 0]) (by simp [results, Tryz.results44, go_sem]) rfl ⟨rfl, ((Below.refl _ _).alloc (Nat.le_refl _) _).alloc (by simp) _⟩
    · by_cases h3 : n < y
      · have HE := Lib.hid (show askd x y n = (0, n) by unfold askd; rw [if_neg (fun h => h2 h.2), if_pos ⟨h1, h3⟩])
        rw [HE.out]
        go_enter Tryz.func44, Tryz.ntmps44
        go_wp2
        refine bodyPost_ret (v := .agg #[.int .i64 0, .int .i64 n]) (by simp [results, Tryz.results44, go_sem]) rfl ⟨rfl, ((Below.refl _ _).alloc (Nat.le_refl _) _).alloc (by simp) _⟩
      · have HE := Lib.hid (show askd x y n = (RowKit.wrap64 (n - y), n) by unfold askd; rw [if_neg (fun h => h2 h.2), if_neg (fun h => h3 h.2), if_pos h1])
        rw [HE.out]
        go_enter Tryz.func44, Tryz.ntmps44
        go_wp2
        refine bodyPost_ret (v := .agg #[.int .i64 (RowKit.wrap64 (n - y)), .int .i64 n]) (by simp [results, Tryz.results44, go_sem]) rfl ⟨rfl, ((Below.refl _ _).alloc (Nat.le_refl _) _).alloc (by simp) _⟩
  · by_cases h2 : y < 0
    · have HE := Lib.hid (show askd x y n = (x, n) by unfold askd; rw [if_neg (fun h => h1 h.1), if_neg (fun h => h1 h.1), if_neg h1, if_pos (Or.inl h2)])
      rw [HE.out]
      go_enter Tryz.func44, Tryz.ntmps44
      go_wp2
      refine bodyPost_ret (v := .agg #[.int .i64 x, .int .i64 n]) (by simp [results, Tryz.results44, go_sem]) rfl ⟨rfl, ((Below.refl _ _).alloc (Nat.le_refl _) _).alloc (by simp) _⟩
    · by_cases h3 : n ≤ y
      · have HE := Lib.hid (show askd x y n = (x, n) by unfold askd; rw [if_neg (fun h => h1 h.1), if_neg (fun h => h1 h.1), if_neg h1, if_pos (Or.inr h3)])
        rw [HE.out]
        go_enter Tryz.func44, Tryz.ntmps44
        go_wp2
        refine bodyPost_ret (v := .agg #[.int .i64 x, .int .i64 n]) (by simp [results, Tryz.results44, go_sem]) rfl ⟨rfl, ((Below.refl _ _).alloc (Nat.le_refl _) _).alloc (by simp) _⟩
      · have HE := Lib.hid (show askd x y n = (x, RowKit.wrap64 (y + 1)) by unfold askd; rw [if_neg (fun h => h1 h.1), if_neg (fun h => h1 h.1), if_neg h1, if_neg (by rintro (h | h); exact h2 h; exact h3 h)])
        rw [HE.out]
        go_enter Tryz.func44, Tryz.ntmps44
        go_wp2
        refine bodyPost_ret (v := .agg #[.int .i64 x, .int .i64 (RowKit.wrap64 (y + 1))]) (by simp [results, Tryz.results44, go_sem]) rfl ⟨rfl, ((Below.refl _ _).alloc (Nat.le_refl _) _).alloc (by simp) _⟩

def RskEnd (x y n : Int) (a : Addr) (w : World) (e : Ending) (w' : World) : Prop :=
  e = .returned (if (askd x y n).1 < (askd x y n).2 then .tuple #[.agg #[.int .i64 (askd x y n).1, .int .i64 (askd x y n).2], .nilIface] else .tuple #[.agg #[.int .i64 0, .int .i64 0], .iface 145 (.pointer (some a))]) ∧ Below w.heap.size w w'
set_option maxHeartbeats 4000000 in
theorem impl_rsk (x y n : Int) (a : Addr) (w : World) (hn : NoB w a) :
    Calls Tryz.prog 28 #[.agg #[.int .i64 x, .int .i64 y], .int .i64 n] w (RskEnd x y n a w) := by
  have hv0 : 0 < w.heap.size := hn.1
  have HN := Lib.hid hn
  have HAS := Lib.hid (fun W => impl_askd x y n W)
  unfold AskdEnd at HAS
  unfold RskEnd
  generalize askd x y n = r at HAS ⊢
  obtain ⟨p, q⟩ := r
  dsimp only at HAS ⊢
  have HHB := Lib.hid (fun W => Crf.has_bytes p q W)
  clear hn
  by_cases hpq : p < q
  · rw [if_pos hpq]
    have hd : decide (p < q) = true := by simpa using hpq
    rw [hd] at HHB
    clear hd hpq hv0 HN
    go_enter Tryz.func28, Tryz.ntmps28
    go_wp2_with (fail)
    go_at_call 44
    refine (HAS.out _).mono ?_
    rintro e w1 ⟨rfl, hb1⟩
    have hq := (Kept.two hb1).1
    have hf := (Kept.two hb1).2
    have HB := Lib.hid (Kept.below_in (Kept.below_in hb1))
    have HS : Hid (w.heap.size + 1 < w1.heap.size) := Lib.hid (by have := hb1.size; simp at this; omega)
    have Q0 := Lib.hid (hq 0 _ rfl)
    have Q1 := Lib.hid (hq 1 _ rfl)
    have F0 := Lib.hid (hf 0)
    have F1 := Lib.hid (hf 1)
    clear hb1 hq hf
    go_wp2_with (fail)
    go_at_call 32
    refine (HHB.out _).mono ?_
    rintro e w2 ⟨rfl, hb2⟩
    have r0 := (Kept.one hb2).1 0 _ rfl
    have r1 := (Kept.one hb2).1 1 _ rfl
    have HB2 := Lib.hid (Base.then_below HB.out (Kept.below_in hb2))
    have q0 := ((Kept.below_in hb2).cell (p := ⟨w.heap.size + 1, 0, none⟩) HS.out).trans Q0.out
    have q1 := ((Kept.below_in hb2).cell (p := ⟨w.heap.size + 1, 1, none⟩) HS.out).trans Q1.out
    have f0 := ((Kept.below_in hb2).frozen (p := ⟨w.heap.size + 1, 0, none⟩) HS.out).trans F0.out
    have f1 := ((Kept.below_in hb2).frozen (p := ⟨w.heap.size + 1, 1, none⟩) HS.out).trans F1.out
    clear hb2
    go_wp2
    refine bodyPost_ret (v := .tuple #[.agg #[.int .i64 p, .int .i64 q], .nilIface]) (by simp [results, Tryz.results28, go_sem, q0, q1]) rfl ⟨rfl, ?_⟩
    exact (HB2.out.setCell (by show w.heap.size ≤ w.heap.size + 1; omega) _).setCell (by show w.heap.size ≤ w.heap.size + 1; omega) _
  · rw [if_neg hpq]
    have hd : decide (p < q) = false := by simpa using hpq
    rw [hd] at HHB
    clear hd hpq
    go_enter Tryz.func28, Tryz.ntmps28
    go_wp2_with (fail)
    go_at_call 44
    refine (HAS.out _).mono ?_
    rintro e w1 ⟨rfl, hb1⟩
    have hq := (Kept.two hb1).1
    have hf := (Kept.two hb1).2
    have HB := Lib.hid (Kept.below_in (Kept.below_in hb1))
    have HS : Hid (w.heap.size + 1 < w1.heap.size) := Lib.hid (by have := hb1.size; simp at this; omega)
    have Q0 := Lib.hid (hq 0 _ rfl)
    have Q1 := Lib.hid (hq 1 _ rfl)
    have F0 := Lib.hid (hf 0)
    have F1 := Lib.hid (hf 1)
    clear hb1 hq hf
    go_wp2_with (fail)
    go_at_call 32
    refine (HHB.out _).mono ?_
    rintro e w2 ⟨rfl, hb2⟩
    have r0 := (Kept.one hb2).1 0 _ rfl
    have r1 := (Kept.one hb2).1 1 _ rfl
    have HB2 := Lib.hid (Base.then_below HB.out (Kept.below_in hb2))
    have q0 := ((Kept.below_in hb2).cell (p := ⟨w.heap.size + 1, 0, none⟩) HS.out).trans Q0.out
    have q1 := ((Kept.below_in hb2).cell (p := ⟨w.heap.size + 1, 1, none⟩) HS.out).trans Q1.out
    have f0 := ((Kept.below_in hb2).frozen (p := ⟨w.heap.size + 1, 0, none⟩) HS.out).trans F0.out
    have f1 := ((Kept.below_in hb2).frozen (p := ⟨w.heap.size + 1, 1, none⟩) HS.out).trans F1.out
    have HN := Lib.hid (nob_below HN.out HB2.out)
    have hcd : w2.drew.cell? ⟨0, 0, none⟩ = some (.iface 145 (.pointer (some a))) := HN.out.2
    have hce : w2.cell? ⟨0, 0, none⟩ = some (.iface 145 (.pointer (some a))) := HN.out.2
    have hne : 0 < w.heap.size + 1 := by omega
    clear hb2 hv0
    go_wp2
    go_region
    all_goals go_wp2
    all_goals refine bodyPost_ret (v := .tuple #[.agg #[.int .i64 0, .int .i64 0], .iface 145 (.pointer (some a))]) (by simp [results, Tryz.results28, go_sem, q0, q1]) rfl ⟨rfl, ?_⟩
    all_goals exact Rec.below_drew ((HB2.out.setCell (by show w.heap.size ≤ w.heap.size + 1; omega) _).setCell (by show w.heap.size ≤ w.heap.size + 1; omega) _)
end Go.Proofs.YtobhdfkhfmpdlaaGreatDoor.Rng

/-
  PLAIN FACTS on slices of Span (written by rec.py): what a slice holds, how that is kept, and how a slice that the call itself has built is such a one.
-/
namespace Go.Proofs.YtobhdfkhfmpdlaaGreatDoor.Spn
open Go Go.RowKit
set_option linter.unusedVariables false
set_option maxRecDepth 1000000

theorem info_r : (Tryz.prog.info? 35).map (fun i => (i.zero, i.size, i.bytes)) = some (some (.agg #[.int .i64 0, .int .i64 0]), 2, 16) := by kernel_rfl

abbrev T : Type := Int × Int
def nov : T := (0, 0)
def cs (f : T) : List Value := [.int .i64 (f.1), .int .i64 (f.2)]
def fv (f : T) : Value := .agg #[.int .i64 (f.1), .int .i64 (f.2)]
theorem cs_len (f : T) : (cs f).length = 2 := rfl
theorem cs_one (f : T) : ∀ u ∈ cs f, u.oneCell' = true := by
  intro u hu; simp [cs] at hu; rcases hu with rfl | rfl <;> rfl
def fcs (l : List T) : List Value := Rec.flat cs l
theorem fcs_len (l : List T) : (fcs l).length = l.length * 2 := Rec.flat_len cs_len l
theorem fcs_more (l : List T) (f : T) : fcs (l ++ [f]) = fcs l ++ [.int .i64 (f.1), .int .i64 (f.2)] := Rec.flat_more l f
theorem fcs_one (l : List T) : ∀ u ∈ fcs l, u.oneCell' = true := Rec.flat_one cs_one l
theorem fcs_put {l : List T} {k : Nat} (f : T) (h : k < l.length) : ((fcs l).set (k * 2) (.int .i64 (f.1))).set (k * 2 + 1) (.int .i64 (f.2)) = fcs (l.set k f) := Rec.flat_put cs_len f h
def Ok (f : T) : Prop := (-9223372036854775808 ≤ f.1 ∧ f.1 ≤ 9223372036854775807) ∧ (-9223372036854775808 ≤ f.2 ∧ f.2 ≤ 9223372036854775807)
/-- The cells from (b, off) on are these. -/
def At (w : World) (b off : Nat) (l : List T) : Prop := Rec.At 2 cs nov w b off l
/-- The slice v reads as l; its cells lie below block B. -/
def Holds (w : World) (B : Nat) (v : Value) (l : List T) : Prop := Rec.Holds 2 cs nov w B v l
abbrev Own (w : World) (B : Nat) (v : Value) (l : List T) : Prop := w.ownsRow B 35 2 v l.length (fcs l)
theorem holds_iff {w : World} {B : Nat} {v : Value} {l : List T} (h : Holds w B v l) : (l = [] ∧ ∃ a cap, v = .slice a 0 cap) ∨ (0 < l.length ∧ ∃ b off cap, v = .slice (some ⟨b, off, none⟩) l.length cap ∧ b < B ∧ l.length ≤ cap ∧ At w b off l) := h
theorem holds_nil (w : World) (B : Nat) (a : Option Addr) (cap : Nat) : Holds w B (.slice a 0 cap) [] := Or.inl ⟨rfl, _, _, rfl⟩
theorem at_cells {w : World} {b off : Nat} {l : List T} (h : At w b off l) {j : Nat} (hj : j < l.length) : w.cell? ⟨b, off + j * 2, none⟩ = some (.int .i64 ((l.getD j nov).1)) ∧ w.cell? ⟨b, off + j * 2 + 1, none⟩ = some (.int .i64 ((l.getD j nov).2)) := ⟨h j hj 0 _ rfl, h j hj 1 _ rfl⟩
theorem at_lt {w : World} {b off : Nat} {l : List T} (h : At w b off l) (h0 : 0 < l.length) : b < w.heap.size := Rec.at_lt cs_len (by decide) h h0
theorem at_below {w w' : World} {B b off : Nat} {l : List T} (h : At w b off l) (hb : Below B w w') (hlt : b < B) : At w' b off l := Rec.at_below h hb hlt
theorem holds_more {w : World} {B B' : Nat} {v : Value} {l : List T} (h : Holds w B v l) (hB : B ≤ B') : Holds w B' v l := Rec.holds_more h hB
theorem holds_below {w w' : World} {B : Nat} {v : Value} {l : List T} (h : Holds w B v l) (hb : Below B w w') : Holds w' B v l := Rec.holds_below h hb
theorem holds_grown {w w' : World} {B : Nat} {v : Value} {l : List T} {row : Option Nat} (h : Holds w B v l) (hg : w.grownBy w' row) (hr : ∀ k, row = some k → B ≤ k) : Holds w' B v l := Rec.holds_grown h hg hr
theorem own_len {w : World} {B : Nat} {v : Value} {l : List T} {n : Nat} (h : w.ownsRow B 35 2 v n (fcs l)) : n = l.length := Rec.own_len cs_len (by decide) h
theorem own_cells {w : World} {B g cap : Nat} {l : List T} {n : Nat} (h : w.ownsRow B 35 2 (.slice (some ⟨g, 0, none⟩) n cap) n (fcs l)) {j : Nat} (hj : j < n) : w.cell? ⟨g, j * 2, none⟩ = some (.int .i64 ((l.getD j nov).1)) ∧ w.cell? ⟨g, j * 2 + 1, none⟩ = some (.int .i64 ((l.getD j nov).2)) :=
  ⟨Rec.own_cell (z := nov) (i := 0) cs_len (by decide) h hj rfl, Rec.own_cell (z := nov) (i := 1) cs_len (by decide) h hj rfl⟩
theorem own_holds {w : World} {B : Nat} {v : Value} {l : List T} (h : Own w B v l) : Holds w w.heap.size v l := Rec.own_holds cs_len (by decide) h
theorem own_mono {w : World} {B B' : Nat} {v : Value} {l : List T} (h : Own w B v l) (hB : B' ≤ B) : Own w B' v l := Rec.own_mono h hB
theorem row_below {w w' : World} {B n : Nat} {v : Value} {xs : List Value} (h : w.ownsRow B 35 2 v n xs) (hb : Below w.heap.size w w') : w'.ownsRow B 35 2 v n xs := Rec.row_below h hb
theorem row_grown {w w' : World} {B n : Nat} {v : Value} {xs : List Value} {row : Option Nat} (h : w.ownsRow B 35 2 v n xs) (hg : w.grownBy w' row) (hr : ∀ g, v.ownBlock = some g → some g ≠ row) : w'.ownsRow B 35 2 v n xs := Rec.row_grown h hg hr
theorem push_own {B : Nat} {a w w1 : World} {v v' : Value} {l : List T} {f : T} {o : Obj} (hown : Own w B v l) (hb : Below a.heap.size a w) (hB : a.heap.size ≤ B)
    (h' : w1.ownsRow B 35 2 v' (l.length + 1) (fcs l ++ [.int .i64 (f.1), .int .i64 (f.2)])) (hg : (w.alloc o).grownBy w1 v.ownBlock) : Own w1 B v' (l ++ [f]) ∧ Below a.heap.size a w1 := Rec.push_own hown hb hB h' hg
theorem own_lit_nil (w : World) : Own (w.alloc (.cells #[] 35)) w.heap.size (.slice (some ⟨w.heap.size, 0, none⟩) 0 0) [] := Rec.own_lit_nil w _
theorem holds_drew {w : World} {B : Nat} {v : Value} {l : List T} (h : Holds w B v l) : Holds w.drew B v l := h
theorem row_drew {w : World} {B n : Nat} {v : Value} {xs : List Value} (h : w.ownsRow B 35 2 v n xs) : w.drew.ownsRow B 35 2 v n xs := h
def part (l : List T) (k : Nat) : List T := Rec.part nov l k
theorem part_len (l : List T) {k : Nat} (h : k ≤ l.length) : (part l k).length = l.length := Rec.part_len l h
theorem part_all (l : List T) : part l l.length = l := Rec.part_all l
theorem part_more {l : List T} {k : Nat} (h : k < l.length) : (part l k).set k (l.getD k nov) = part l (k + 1) := Rec.part_more h
theorem made_part (l : List T) : (madeCells (Value.agg #[.int .i64 0, .int .i64 0]).cells (l.length * 2)).toList = fcs (part l 0) := Rec.made_part cs_len (by decide) l _ rfl
def wt (f : T) : Nat := 0
def total (l : List T) : Nat := Rec.total wt l
theorem len_le_total (l : List T) : l.length ≤ total l := Rec.len_le_total wt l
theorem mem_total {l : List T} {f : T} (h : f ∈ l) : wt f ≤ total l := Rec.mem_total wt h
end Go.Proofs.YtobhdfkhfmpdlaaGreatDoor.Spn
