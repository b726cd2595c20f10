/-
  CONTRACTS of ParseContentRange, the model's and the program's; nothing that was there before is changed.
-/
import Derived.Test.YtmfgflbbojaghaaDoorAskS
import Derived.Test.YtmfgflbbojaghaaDoorShelf
import Derived.Laws.DeepStrings4
namespace Go.Proofs.YtmfgflbbojaghaaDoor.Rng
open Go Go.RowKit
set_option linter.unusedVariables false

def preC : List UInt8 := [98, 121, 116, 101, 115, 32]
def pcrOf (x1 : List UInt8) (n : Int × Bool) : (Int × Int) × Int × Bool :=
  if n.2 = true then (if x1 = [42] then ((0, 0), n.1, true) else if (pask x1).2 = true ∧ 0 ≤ (pask x1).1.1 ∧ 0 ≤ (pask x1).1.2 ∧ (pask x1).1.2 < n.1 then (((pask x1).1.1, (pask x1).1.2 + 1), n.1, true) else ((0, 0), 0, false)) else ((0, 0), 0, false)
def pcr (l : List UInt8) : (Int × Int) × Int × Bool := if Lib.hasPrefix l preC = true then pcrOf (Tx.cutAt 47 (Lib.trimPrefix l preC)).1 (pin (Tx.cutAt 47 (Lib.trimPrefix l preC)).2.1) else ((0, 0), 0, false)
def PcrEnd (l : List UInt8) (w : World) (e : Ending) (w' : World) : Prop := e = .returned (.tuple #[.agg #[.int .i64 (pcr l).1.1, .int .i64 (pcr l).1.2], .int .i64 (pcr l).2.1, .bool (pcr l).2.2]) ∧ Below w.heap.size w w'
theorem pcr_ret {l : List UInt8} {p q n : Int} {b : Bool} (h : pcr l = ((p, q), n, b)) : Ending.returned (.tuple #[.agg #[.int .i64 p, .int .i64 q], .int .i64 n, .bool b]) = .returned (.tuple #[.agg #[.int .i64 (pcr l).1.1, .int .i64 (pcr l).1.2], .int .i64 (pcr l).2.1, .bool (pcr l).2.2]) := by rw [h]
/-- A span in a block of its own. -/
def SBox (g : Nat) (p q : Int) (w : World) : Prop := w.heap[g]? = some (.cells #[.int .i64 p, .int .i64 q] 23 (0, 0))
theorem sbox_new (w : World) (p q : Int) : SBox w.heap.size p q (w.alloc (.cells #[.int .i64 p, .int .i64 q] 23)) := heap_alloc_new w _
theorem sbox_lt {g : Nat} {p q : Int} {w : World} (h : SBox g p q w) : g < w.heap.size := by
  rcases Nat.lt_or_ge g w.heap.size with h' | h'
  · exact h'
  · unfold SBox at h; rw [Array.getElem?_eq_none h'] at h; cases h
theorem sbox_keep {g : Nat} {p q : Int} {w w' : World} (h : SBox g p q w) (hb : Below w.heap.size w w') : SBox g p q w' := (hb.block g (sbox_lt h)).trans h
theorem sbox_facts {g : Nat} {p q : Int} {w : World} (h : SBox g p q w) : (w.cell? ⟨g, 0, none⟩ = some (.int .i64 p) ∧ w.cell? ⟨g, 1, none⟩ = some (.int .i64 q)) ∧ w.frozen? ⟨g, 0, none⟩ = false ∧ w.frozen? ⟨g, 1, none⟩ = false :=
  ⟨⟨cell_of_row w g 0 _ _ (0, 0) h, cell_of_row w g 1 _ _ (0, 0) h⟩, frozen_of_row w g 0 _ _ h, frozen_of_row w g 1 _ _ h⟩
theorem hasC (l : List UInt8) : Lib.hasPrefix l preC = (l.take 6 == preC) := by
  unfold Lib.hasPrefix
  rw [Bool.eq_iff_iff, List.isPrefixOf_iff_prefix, List.prefix_iff_eq_take, beq_iff_eq]
  exact ⟨fun h => h.symm, fun h => h.symm⟩
theorem trim_leC (l p : List UInt8) : (Lib.trimPrefix l p).length ≤ l.length := by unfold Lib.trimPrefix; split <;> simp

set_option maxRecDepth 100000 in
set_option maxHeartbeats 8000000 in
theorem impl_pcr (l : List UInt8) (w : World) (hl : l.length ≤ 1048576) (ht : Fmt.Tens w) (he : Par.Errs w) :
    Calls Tryd.prog 5 #[.string ⟨l.toArray⟩] w (PcrEnd l w) := by
  have HA : Hid (Below w.heap.size w (w.alloc (.cells #[.int .i64 0, .int .i64 0] 23))) := Lib.hid ((Below.refl _ _).alloc (Nat.le_refl _) _)
  have HBX := Lib.hid (sbox_new w 0 0)
  have HTE := Lib.hid (fun W (hb : Below w.heap.size w W) => And.intro (Fmt.tens_below ht hb) (Par.errs_below he hb))
  have C1 : Hid (∀ W : World, Calls Tryd.prog 9 #[.string ⟨l.toArray⟩, .string ⟨#[98, 121, 116, 101, 115, 32]⟩] W fun e w' => e = .returned (.tuple #[.string ⟨(Lib.trimPrefix l preC).toArray⟩, .bool (Lib.hasPrefix l preC)]) ∧ w' = W) := Lib.hid (fun W => Tryd.strings_CutPrefix ⟨l.toArray⟩ ⟨#[98, 121, 116, 101, 115, 32]⟩ W)
  have hlr := Nat.le_trans (trim_leC l preC) hl
  have HP : Hid (pcr l = if Lib.hasPrefix l preC = true then pcrOf (Tx.cutAt 47 (Lib.trimPrefix l preC)).1 (pin (Tx.cutAt 47 (Lib.trimPrefix l preC)).2.1) else ((0, 0), 0, false)) := Lib.hid rfl
  generalize Lib.trimPrefix l preC = r at C1 HP hlr
  generalize Lib.hasPrefix l preC = fd at C1 HP
  have hcl := Tx.cutAt_len 47 r
  have c2 := fun W => Tx.cut_any ⟨r.toArray⟩ 47 W (by simp [ByteArray.size]; omega)
  have HC : Hid (∀ W : World, Calls Tryd.prog 10 #[.string ⟨r.toArray⟩, .string ⟨#[47]⟩] W fun e w' => e = .returned (.tuple #[.string ⟨(Tx.cutAt 47 r).1.toArray⟩, .string ⟨(Tx.cutAt 47 r).2.1.toArray⟩, .bool (Tx.cutAt 47 r).2.2]) ∧ Below W.heap.size W w') := Lib.hid (fun W => c2 W)
  generalize Tx.cutAt 47 r = x at HC HP hcl
  obtain ⟨x1, x2, fnd⟩ := x
  simp only at HC HP hcl
  have HI := Lib.hid (fun W (hb : Below w.heap.size w W) => impl_pin x2 W (by omega) (HTE.out W hb).1 (HTE.out W hb).2)
  have HK := Lib.hid (fun W (hb : Below w.heap.size w W) => impl_ask x1 W (by omega) (HTE.out W hb).1 (HTE.out W hb).2)
  unfold PinEnd at HI
  unfold AskEnd at HK
  have hpn := pin_nn x2
  unfold pcrOf at HP
  generalize pin x2 = n at HI HP hpn
  obtain ⟨p, b⟩ := n
  simp only at HI HP hpn
  have HPN := Lib.hid hpn
  clear hl ht he hcl c2 HTE hlr
  cases fd with
  | false =>
    have HE : Hid (pcr l = ((0, 0), 0, false)) := Lib.hid (by rw [HP.out]; simp)
    go_enter Tryd.func5, Tryd.ntmps5
    go_wp2_with (fail)
    go_at_call 9
    refine (C1.out _).mono ?_
    rintro e w0 ⟨rfl, hw⟩
    rw [hw]
    clear hw C1
    go_wp2_with (fail)
    go_at_call 10
    refine (HC.out _).mono ?_
    rintro e w2 ⟨rfl, k1⟩
    have HBX := Lib.hid (sbox_keep HBX.out k1)
    have HB := Lib.hid (Base.then_below HA.out k1)
    clear k1 HC
    go_wp2_with (fail)
    go_at_call 11
    refine (HI.out _ HB.out).mono ?_
    rintro e w3 ⟨rfl, k1⟩
    have HBX := Lib.hid (sbox_keep HBX.out k1)
    have HB := Lib.hid (Base.then_below HB.out k1)
    obtain ⟨⟨q0, q1⟩, z0, z1⟩ := sbox_facts HBX.out
    clear k1
    clear HI
    go_wp2
    refine bodyPost_ret (v := .tuple #[.agg #[.int .i64 (0), .int .i64 (0)], .int .i64 (0), .bool false]) (by simp [results, Tryd.results5, go_sem, q0, q1]) rfl ⟨pcr_ret HE.out, ?_⟩
    first | exact (HB.out.setCell (Nat.le_refl _) _).setCell (Nat.le_refl _) _ | exact ((HB.out.alloc HB.out.size _).setCell (Nat.le_refl _) _).setCell (Nat.le_refl _) _ | exact HB.out | exact HB.out.alloc HB.out.size _
  | true =>
    cases b with
    | false =>
      have HE : Hid (pcr l = ((0, 0), 0, false)) := Lib.hid (by rw [HP.out]; simp)
      go_enter Tryd.func5, Tryd.ntmps5
      go_wp2_with (fail)
      go_at_call 9
      refine (C1.out _).mono ?_
      rintro e w0 ⟨rfl, hw⟩
      rw [hw]
      clear hw C1
      go_wp2_with (fail)
      go_at_call 10
      refine (HC.out _).mono ?_
      rintro e w2 ⟨rfl, k1⟩
      have HBX := Lib.hid (sbox_keep HBX.out k1)
      have HB := Lib.hid (Base.then_below HA.out k1)
      clear k1 HC
      go_wp2_with (fail)
      go_at_call 11
      refine (HI.out _ HB.out).mono ?_
      rintro e w3 ⟨rfl, k1⟩
      have HBX := Lib.hid (sbox_keep HBX.out k1)
      have HB := Lib.hid (Base.then_below HB.out k1)
      obtain ⟨⟨q0, q1⟩, z0, z1⟩ := sbox_facts HBX.out
      clear k1
      clear HI
      go_wp2
      refine bodyPost_ret (v := .tuple #[.agg #[.int .i64 (0), .int .i64 (0)], .int .i64 (0), .bool false]) (by simp [results, Tryd.results5, go_sem, q0, q1]) rfl ⟨pcr_ret HE.out, ?_⟩
      first | exact (HB.out.setCell (Nat.le_refl _) _).setCell (Nat.le_refl _) _ | exact ((HB.out.alloc HB.out.size _).setCell (Nat.le_refl _) _).setCell (Nat.le_refl _) _ | exact HB.out | exact HB.out.alloc HB.out.size _
    | true =>
      by_cases hst : x1 = [42]
      · have HE : Hid (pcr l = ((0, 0), p, true)) := Lib.hid (by rw [HP.out]; simp [hst])
        subst hst
        go_enter Tryd.func5, Tryd.ntmps5
        go_wp2_with (fail)
        go_at_call 9
        refine (C1.out _).mono ?_
        rintro e w0 ⟨rfl, hw⟩
        rw [hw]
        clear hw C1
        go_wp2_with (fail)
        go_at_call 10
        refine (HC.out _).mono ?_
        rintro e w2 ⟨rfl, k1⟩
        have HBX := Lib.hid (sbox_keep HBX.out k1)
        have HB := Lib.hid (Base.then_below HA.out k1)
        clear k1 HC
        go_wp2_with (fail)
        go_at_call 11
        refine (HI.out _ HB.out).mono ?_
        rintro e w3 ⟨rfl, k1⟩
        have HBX := Lib.hid (sbox_keep HBX.out k1)
        have HB := Lib.hid (Base.then_below HB.out k1)
        obtain ⟨⟨q0, q1⟩, z0, z1⟩ := sbox_facts HBX.out
        clear k1
        clear HI
        go_wp2
        refine bodyPost_ret (v := .tuple #[.agg #[.int .i64 (0), .int .i64 (0)], .int .i64 (p), .bool true]) (by simp [results, Tryd.results5, go_sem, q0, q1]) rfl ⟨pcr_ret HE.out, ?_⟩
        first | exact (HB.out.setCell (Nat.le_refl _) _).setCell (Nat.le_refl _) _ | exact ((HB.out.alloc HB.out.size _).setCell (Nat.le_refl _) _).setCell (Nat.le_refl _) _ | exact HB.out | exact HB.out.alloc HB.out.size _
      · have hq : (x1 == [42]) = false := by simpa using hst
        have HPP : Hid (pcr l = if (pask x1).2 = true ∧ 0 ≤ (pask x1).1.1 ∧ 0 ≤ (pask x1).1.2 ∧ (pask x1).1.2 < p then (((pask x1).1.1, (pask x1).1.2 + 1), p, true) else ((0, 0), 0, false)) := Lib.hid (by rw [HP.out, if_pos rfl, if_pos rfl, if_neg hst])
        generalize pask x1 = a at HK HPP
        obtain ⟨⟨a1, a2⟩, ok⟩ := a
        simp only at HK HPP
        clear hst HP
        go_enter Tryd.func5, Tryd.ntmps5
        go_wp2_with (fail)
        go_at_call 9
        refine (C1.out _).mono ?_
        rintro e w0 ⟨rfl, hw⟩
        rw [hw]
        clear hw C1
        go_wp2_with (fail)
        go_at_call 10
        refine (HC.out _).mono ?_
        rintro e w2 ⟨rfl, k1⟩
        have HBX := Lib.hid (sbox_keep HBX.out k1)
        have HB := Lib.hid (Base.then_below HA.out k1)
        clear k1 HC
        go_wp2_with (fail)
        go_at_call 11
        refine (HI.out _ HB.out).mono ?_
        rintro e w3 ⟨rfl, k1⟩
        have HBX := Lib.hid (sbox_keep HBX.out k1)
        have HB := Lib.hid (Base.then_below HB.out k1)
        have h3 := HPN.out
        clear k1 HI
        cases ok with
        | false =>
          have HE : Hid (pcr l = ((0, 0), 0, false)) := Lib.hid (by rw [HPP.out]; simp)
          go_wp2_with (fail)
          go_at_call 12
          refine (HK.out _ HB.out).mono ?_
          rintro e w4 ⟨rfl, k1⟩
          have HBX := Lib.hid (sbox_keep HBX.out k1)
          have HB := Lib.hid (Base.then_below HB.out k1)
          have HB := Lib.hid (HB.out.alloc HB.out.size (.cells #[.int .i64 a1, .int .i64 a2] 30))
          have HBX2 := Lib.hid (sbox_keep HBX.out ((Below.refl w4.heap.size w4).alloc (Nat.le_refl _) (.cells #[.int .i64 a1, .int .i64 a2] 30)))
          obtain ⟨⟨q0, q1⟩, z0, z1⟩ := sbox_facts HBX2.out
          clear k1
          go_wp2
          refine bodyPost_ret (v := .tuple #[.agg #[.int .i64 (0), .int .i64 (0)], .int .i64 (0), .bool false]) (by simp [results, Tryd.results5, go_sem, q0, q1]) rfl ⟨pcr_ret HE.out, ?_⟩
          first | exact (HB.out.setCell (Nat.le_refl _) _).setCell (Nat.le_refl _) _ | exact ((HB.out.alloc HB.out.size _).setCell (Nat.le_refl _) _).setCell (Nat.le_refl _) _ | exact HB.out | exact HB.out.alloc HB.out.size _
        | true =>
          by_cases g1 : a1 < 0
          · have HE : Hid (pcr l = ((0, 0), 0, false)) := Lib.hid (by rw [HPP.out, if_neg (by rintro ⟨_, h, _⟩; omega)])
            go_wp2_with (fail)
            go_at_call 12
            refine (HK.out _ HB.out).mono ?_
            rintro e w4 ⟨rfl, k1⟩
            have HBX := Lib.hid (sbox_keep HBX.out k1)
            have HB := Lib.hid (Base.then_below HB.out k1)
            have HB := Lib.hid (HB.out.alloc HB.out.size (.cells #[.int .i64 a1, .int .i64 a2] 30))
            have HBX2 := Lib.hid (sbox_keep HBX.out ((Below.refl w4.heap.size w4).alloc (Nat.le_refl _) (.cells #[.int .i64 a1, .int .i64 a2] 30)))
            obtain ⟨⟨q0, q1⟩, z0, z1⟩ := sbox_facts HBX2.out
            clear k1
            go_wp2
            refine bodyPost_ret (v := .tuple #[.agg #[.int .i64 (0), .int .i64 (0)], .int .i64 (0), .bool false]) (by simp [results, Tryd.results5, go_sem, q0, q1]) rfl ⟨pcr_ret HE.out, ?_⟩
            first | exact (HB.out.setCell (Nat.le_refl _) _).setCell (Nat.le_refl _) _ | exact ((HB.out.alloc HB.out.size _).setCell (Nat.le_refl _) _).setCell (Nat.le_refl _) _ | exact HB.out | exact HB.out.alloc HB.out.size _
          by_cases g2 : a2 < 0
          · have HE : Hid (pcr l = ((0, 0), 0, false)) := Lib.hid (by rw [HPP.out, if_neg (by rintro ⟨_, _, h, _⟩; omega)])
            go_wp2_with (fail)
            go_at_call 12
            refine (HK.out _ HB.out).mono ?_
            rintro e w4 ⟨rfl, k1⟩
            have HBX := Lib.hid (sbox_keep HBX.out k1)
            have HB := Lib.hid (Base.then_below HB.out k1)
            have HB := Lib.hid (HB.out.alloc HB.out.size (.cells #[.int .i64 a1, .int .i64 a2] 30))
            have HBX2 := Lib.hid (sbox_keep HBX.out ((Below.refl w4.heap.size w4).alloc (Nat.le_refl _) (.cells #[.int .i64 a1, .int .i64 a2] 30)))
            obtain ⟨⟨q0, q1⟩, z0, z1⟩ := sbox_facts HBX2.out
            clear k1
            go_wp2
            refine bodyPost_ret (v := .tuple #[.agg #[.int .i64 (0), .int .i64 (0)], .int .i64 (0), .bool false]) (by simp [results, Tryd.results5, go_sem, q0, q1]) rfl ⟨pcr_ret HE.out, ?_⟩
            first | exact (HB.out.setCell (Nat.le_refl _) _).setCell (Nat.le_refl _) _ | exact ((HB.out.alloc HB.out.size _).setCell (Nat.le_refl _) _).setCell (Nat.le_refl _) _ | exact HB.out | exact HB.out.alloc HB.out.size _
          by_cases g3 : p ≤ a2
          · have HE : Hid (pcr l = ((0, 0), 0, false)) := Lib.hid (by rw [HPP.out, if_neg (by rintro ⟨_, _, _, h⟩; omega)])
            go_wp2_with (fail)
            go_at_call 12
            refine (HK.out _ HB.out).mono ?_
            rintro e w4 ⟨rfl, k1⟩
            have HBX := Lib.hid (sbox_keep HBX.out k1)
            have HB := Lib.hid (Base.then_below HB.out k1)
            have HB := Lib.hid (HB.out.alloc HB.out.size (.cells #[.int .i64 a1, .int .i64 a2] 30))
            have HBX2 := Lib.hid (sbox_keep HBX.out ((Below.refl w4.heap.size w4).alloc (Nat.le_refl _) (.cells #[.int .i64 a1, .int .i64 a2] 30)))
            obtain ⟨⟨q0, q1⟩, z0, z1⟩ := sbox_facts HBX2.out
            clear k1
            go_wp2
            refine bodyPost_ret (v := .tuple #[.agg #[.int .i64 (0), .int .i64 (0)], .int .i64 (0), .bool false]) (by simp [results, Tryd.results5, go_sem, q0, q1]) rfl ⟨pcr_ret HE.out, ?_⟩
            first | exact (HB.out.setCell (Nat.le_refl _) _).setCell (Nat.le_refl _) _ | exact ((HB.out.alloc HB.out.size _).setCell (Nat.le_refl _) _).setCell (Nat.le_refl _) _ | exact HB.out | exact HB.out.alloc HB.out.size _
          have HE : Hid (pcr l = ((a1, a2 + 1), p, true)) := Lib.hid (by rw [HPP.out, if_pos ⟨rfl, by omega, by omega, by omega⟩])
          have g4 : 0 ≤ a2 := by omega
          have g5 : a2 ≤ 1000000000000 := by omega
          go_wp2_with (fail)
          go_at_call 12
          refine (HK.out _ HB.out).mono ?_
          rintro e w4 ⟨rfl, k1⟩
          have HBX := Lib.hid (sbox_keep HBX.out k1)
          have HB := Lib.hid (Base.then_below HB.out k1)
          have HB := Lib.hid (HB.out.alloc HB.out.size (.cells #[.int .i64 a1, .int .i64 a2] 30))
          have HBX2 := Lib.hid (sbox_keep HBX.out ((Below.refl w4.heap.size w4).alloc (Nat.le_refl _) (.cells #[.int .i64 a1, .int .i64 a2] 30)))
          obtain ⟨⟨q0, q1⟩, z0, z1⟩ := sbox_facts HBX2.out
          clear k1
          go_wp2
          refine bodyPost_ret (v := .tuple #[.agg #[.int .i64 (a1), .int .i64 (a2 + 1)], .int .i64 (p), .bool true]) (by simp [results, Tryd.results5, go_sem, q0, q1]) rfl ⟨pcr_ret HE.out, ?_⟩
          first | exact (HB.out.setCell (Nat.le_refl _) _).setCell (Nat.le_refl _) _ | exact ((HB.out.alloc HB.out.size _).setCell (Nat.le_refl _) _).setCell (Nat.le_refl _) _ | exact HB.out | exact HB.out.alloc HB.out.size _

/-- Where the slash stands, behind the beginning. -/
theorem pcr_cut {l : List UInt8} {k : Nat} (hk : k < l.length) (h1 : ∀ j (hj : j < l.length), j < k → l[j] ≠ 47) (h2 : ∀ h : k < l.length, l[k] = 47) (hp : Lib.hasPrefix l preC = true) (h6 : 6 ≤ k) :
    pcr l = pcrOf ((l.drop 6).take (k - 6)) (pin (l.drop (k + 1))) := by
  have e1 : Lib.trimPrefix l preC = l.drop 6 := by unfold Lib.trimPrefix; rw [if_pos hp]; rfl
  have hi : Tx.idx 47 (l.drop 6) = k - 6 := Tx.idx_eq (by rw [List.length_drop]; omega) (fun j hj hlt => by rw [List.getElem_drop]; exact h1 _ _ (by omega)) (fun h => by
    rw [List.getElem_drop]
    have e : 6 + (k - 6) = k := by omega
    simp only [e]; exact h2 hk)
  have e2 : Tx.cutAt 47 (l.drop 6) = ((l.drop 6).take (k - 6), l.drop (k + 1), true) := by
    unfold Tx.cutAt; rw [hi, if_pos (by rw [List.length_drop]; omega), List.drop_drop, show 6 + (k - 6 + 1) = k + 1 by omega]
  unfold pcr
  rw [if_pos hp, e1, e2]
theorem pcr_nop {l : List UInt8} (hp : Lib.hasPrefix l preC = false) : pcr l = ((0, 0), 0, false) := by unfold pcr; rw [hp]; rfl
theorem pask_nil : pask [] = ((0, 0), false) := pask_none (by simp [Tx.idx])
theorem pcr_none {l : List UInt8} {k : Nat} (hk : k ≤ l.length) (h1 : ∀ j (hj : j < l.length), j < k → l[j] ≠ 47) (h2 : ∀ h : k < l.length, l[k] = 47) (h : k = l.length ∨ k < 7 ∨ (l.take 6 == preC) = false) : pcr l = ((0, 0), 0, false) := by
  cases hp : Lib.hasPrefix l preC with
  | false => exact pcr_nop hp
  | true =>
    have ht : l.take 6 = preC := by rw [hasC, beq_iff_eq] at hp; exact hp
    have hlen : 6 ≤ l.length := by have := congrArg List.length ht; rw [List.length_take] at this; unfold preC at this; simp at this; omega
    have h6 : 6 ≤ k := by
      rcases Nat.lt_or_ge k 6 with hlt | hge
      · exfalso
        have hkl : k < l.length := by omega
        have e := h2 hkl
        have e3 : (l.take 6)[k]? = some 47 := by rw [List.getElem?_take, if_pos hlt, List.getElem?_eq_getElem hkl, e]
        rw [ht] at e3
        unfold preC at e3
        match k, hlt, e3 with
        | 0, _, e3 => simp at e3
        | 1, _, e3 => simp at e3
        | 2, _, e3 => simp at e3
        | 3, _, e3 => simp at e3
        | 4, _, e3 => simp at e3
        | 5, _, e3 => simp at e3
      · exact hge
    rcases h with h | h | h
    · have e1 : Lib.trimPrefix l preC = l.drop 6 := by unfold Lib.trimPrefix; rw [if_pos hp]; rfl
      have hi : Tx.idx 47 (l.drop 6) = (l.drop 6).length := Tx.idx_eq (Nat.le_refl _) (fun j hj hlt => by rw [List.getElem_drop]; exact h1 _ _ (by rw [List.length_drop] at hj; omega)) (fun h => absurd h (Nat.lt_irrefl _))
      have e2 : Tx.cutAt 47 (l.drop 6) = (l.drop 6, [], false) := by unfold Tx.cutAt; rw [hi, if_neg (Nat.lt_irrefl _)]
      unfold pcr
      rw [if_pos hp, e1, e2]
      unfold pcrOf
      rw [pin_nil]; rfl
    · rcases Nat.lt_or_ge k l.length with hkl | hkl
      · rw [pcr_cut hkl h1 h2 hp h6]
        have : k - 6 = 0 := by omega
        rw [this, List.take_zero]
        unfold pcrOf
        rw [pask_nil]
        split
        · simp
        · rfl
      · have hke : k = l.length := by omega
        have e1 : Lib.trimPrefix l preC = l.drop 6 := by unfold Lib.trimPrefix; rw [if_pos hp]; rfl
        have hi : Tx.idx 47 (l.drop 6) = (l.drop 6).length := Tx.idx_eq (Nat.le_refl _) (fun j hj hlt => by rw [List.getElem_drop]; exact h1 _ _ (by rw [List.length_drop] at hj; omega)) (fun h => absurd h (Nat.lt_irrefl _))
        have e2 : Tx.cutAt 47 (l.drop 6) = (l.drop 6, [], false) := by unfold Tx.cutAt; rw [hi, if_neg (Nat.lt_irrefl _)]
        unfold pcr
        rw [if_pos hp, e1, e2]
        unfold pcrOf
        rw [pin_nil]; rfl
    · rw [ht] at h; simp at h

set_option maxRecDepth 100000 in
set_option maxHeartbeats 8000000 in
theorem spec_pcr_s (s : ByteArray) (w : World) (hs : s.size ≤ 1048576) :
    Calls Tryd.prog 4 #[.string s] w (PcrEnd s.data.toList w) := by
  have HLN : Hid (s.data.toList.length = s.size) := Lib.hid (by rw [Array.length_toList]; rfl)
  have HBX0 := sbox_new w 0 0
  have hbb : Below (w.alloc (.cells #[.int .i64 0, .int .i64 0] 23)).heap.size (w.alloc (.cells #[.int .i64 0, .int .i64 0] 23)) ((w.alloc (.cells #[.int .i64 0, .int .i64 0] 23)).alloc (.cells #[.int .i64 0, .int .i64 0] 23)) := (Below.refl _ _).alloc (Nat.le_refl _) _
  have HBX := Lib.hid (sbox_keep HBX0 hbb)
  have HBY : Hid (SBox (w.heap.size + 1) 0 0 ((w.alloc (.cells #[.int .i64 0, .int .i64 0] 23)).alloc (.cells #[.int .i64 0, .int .i64 0] 23))) := Lib.hid (by have h := sbox_new (w.alloc (.cells #[.int .i64 0, .int .i64 0] 23)) 0 0; rw [World.size_alloc] at h; exact h)
  have HB : Hid (Below w.heap.size w ((w.alloc (.cells #[.int .i64 0, .int .i64 0] 23)).alloc (.cells #[.int .i64 0, .int .i64 0] 23))) := Lib.hid (((Below.refl _ _).alloc (Nat.le_refl _) _).trans (hbb.mono (by simp)))
  have ex : (s.extract 0 6).toList = s.data.toList.take 6 := by rw [Lib.extract_toList]; simp
  have HEX := Lib.hid ex
  clear HBX0 hbb ex
  go_enter Tryd.func4, Tryd.ntmps4
  go_wp2
  go_loop [6] (fun i => ∃ k : Nat, k ≤ s.size ∧ i = .int .i64 k ∧ ∀ j (hj : j < s.data.toList.length), j < k → s.data.toList[j] ≠ 47) (fun i => s.size - (intOf i).toNat)
  case atStart => exact ⟨0, Nat.zero_le _, rfl, fun j hj h => absurd h (by omega)⟩
  case round =>
    obtain ⟨k, hk, rfl, hno⟩ := hrel
    have HN := Lib.hid hno
    clear hno
    by_cases hlt : k < s.size
    case neg =>
      obtain rfl : k = s.size := by omega
      have HE := Lib.hid (pcr_none (l := s.data.toList) (k := s.size) (by rw [HLN.out]; exact Nat.le_refl _) HN.out (fun h => absurd h (by rw [HLN.out]; omega)) (Or.inl HLN.out.symm))
      have e1 : (((s.size : Nat) : Int) == ((s.size : Nat) : Int)) = true := by simp
      obtain ⟨⟨q0, q1⟩, z0, z1⟩ := sbox_facts HBX.out
      obtain ⟨⟨y0, y1⟩, _⟩ := sbox_facts HBY.out
      go_wp2
      refine bodyPost_ret (v := .tuple #[.agg #[.int .i64 (0), .int .i64 (0)], .int .i64 (0), .bool false]) (by simp [results, Tryd.results4, go_sem, q0, q1]) rfl ⟨pcr_ret HE.out, ?_⟩
      first | exact (HB.out.setCell (Nat.le_refl _) _).setCell (Nat.le_refl _) _ | exact ((HB.out.alloc HB.out.size _).setCell (Nat.le_refl _) _).setCell (Nat.le_refl _) _ | exact HB.out | exact HB.out.alloc HB.out.size _
    rcases hc : ((s[k].toNat : Int) == 47) with _ | _
    · have HC : Hid (s[k] ≠ 47) := Lib.hid (by intro h; rw [h] at hc; revert hc; decide)
      have hc2 : ((s[k].toNat : Int) != 47) = true := by rw [bne, hc]; rfl
      go_wp2
      go_round
      case rel => exact ⟨k + 1, by omega, by go_num, fun j hj h => by
        rcases Nat.lt_or_ge j k with h' | h'
        · exact HN.out j hj h'
        · have : j = k := by omega
          subst this; exact HC.out⟩
      case measure => simp [intOf]; omega
    have HC : Hid (s[k] = 47) := Lib.hid (UInt8.toNat_inj.1 (by have := beq_iff_eq.1 hc; simp; omega))
    have hc2 : ((s[k].toNat : Int) != 47) = false := by rw [bne, hc]; rfl
    have e1 : ((k : Int) == ((s.size : Nat) : Int)) = false := by rw [beq_eq_false_iff_ne]; omega
    have HNO := Lib.hid (fun h => pcr_none (l := s.data.toList) (k := k) (by rw [HLN.out]; exact hk) HN.out (fun _ => HC.out) (Or.inr h))
    by_cases h7 : (k : Int) < 7
    · have HE := Lib.hid (HNO.out (Or.inl (by omega)))
      obtain ⟨⟨q0, q1⟩, z0, z1⟩ := sbox_facts HBX.out
      obtain ⟨⟨y0, y1⟩, _⟩ := sbox_facts HBY.out
      clear HNO
      go_wp2
      refine bodyPost_ret (v := .tuple #[.agg #[.int .i64 (0), .int .i64 (0)], .int .i64 (0), .bool false]) (by simp [results, Tryd.results4, go_sem, q0, q1]) rfl ⟨pcr_ret HE.out, ?_⟩
      first | exact (HB.out.setCell (Nat.le_refl _) _).setCell (Nat.le_refl _) _ | exact ((HB.out.alloc HB.out.size _).setCell (Nat.le_refl _) _).setCell (Nat.le_refl _) _ | exact HB.out | exact HB.out.alloc HB.out.size _
    have h66 : (6 : Int) ≤ (s.size : Int) := by omega
    cases hq : ((s.extract 0 6).toList == [98, 121, 116, 101, 115, 32]) with
    | false =>
      have HE := Lib.hid (HNO.out (Or.inr (by rw [← HEX.out]; exact hq)))
      have hq2 : ((s.extract 0 6).toList != [98, 121, 116, 101, 115, 32]) = true := by rw [bne, hq]; rfl
      obtain ⟨⟨q0, q1⟩, z0, z1⟩ := sbox_facts HBX.out
      obtain ⟨⟨y0, y1⟩, _⟩ := sbox_facts HBY.out
      clear HNO
      go_wp2
      refine bodyPost_ret (v := .tuple #[.agg #[.int .i64 (0), .int .i64 (0)], .int .i64 (0), .bool false]) (by simp [results, Tryd.results4, go_sem, q0, q1]) rfl ⟨pcr_ret HE.out, ?_⟩
      first | exact (HB.out.setCell (Nat.le_refl _) _).setCell (Nat.le_refl _) _ | exact ((HB.out.alloc HB.out.size _).setCell (Nat.le_refl _) _).setCell (Nat.le_refl _) _ | exact HB.out | exact HB.out.alloc HB.out.size _
    | true =>
      have hq2 : ((s.extract 0 6).toList != [98, 121, 116, 101, 115, 32]) = false := by rw [bne, hq]; rfl
      have HP := Lib.hid (pcr_cut (l := s.data.toList) (k := k) (by rw [HLN.out]; exact hlt) HN.out (fun _ => HC.out) (by rw [hasC, ← HEX.out]; exact hq) (by omega))
      have x2 : (s.extract (k + 1) s.size).data.toList = s.data.toList.drop (k + 1) := by
        rw [Tx.ext_eq]; simp only []
        exact List.take_of_length_le (by rw [List.length_drop, HLN.out]; omega)
      have x1 : (s.extract 6 k).data.toList = (s.data.toList.drop 6).take (k - 6) := by rw [Tx.ext_eq]
      have x3 : (s.extract 6 k).toList = (s.extract 6 k).data.toList := ByteArray.toList_eq _
      have HI := Lib.hid (fun W => spec_pin_s (s.extract (k + 1) s.size) W (by simp; omega))
      have HK := Lib.hid (fun W => spec_ask_s (s.extract 6 k) W (by simp; omega))
      have hpn := pin_nn (s.data.toList.drop (k + 1))
      unfold PinEnd at HI
      unfold AskEnd at HK
      rw [x2] at HI
      rw [← x1] at HP
      unfold pcrOf at HP
      generalize pin (s.data.toList.drop (k + 1)) = n at HI HP hpn
      obtain ⟨p, b⟩ := n
      simp only at HI HP hpn
      have HPN := Lib.hid hpn
      have HX3 := Lib.hid x3
      have h6k : (6 : Int) ≤ (k : Int) := by omega
      clear x1 x2 x3 hpn HNO hc
      cases b with
      | false =>
        have HE : Hid (pcr s.data.toList = ((0, 0), 0, false)) := Lib.hid (by rw [HP.out]; simp)
        clear HK HP
        go_wp2_with (fail)
        go_at_call 7
        refine (HI.out _).mono ?_
        rintro e w3 ⟨rfl, k1⟩
        have HBX := Lib.hid (sbox_keep HBX.out k1)
        have HBY := Lib.hid (sbox_keep HBY.out k1)
        have HB := Lib.hid (Base.then_below HB.out k1)
        obtain ⟨⟨q0, q1⟩, z0, z1⟩ := sbox_facts HBX.out
        obtain ⟨⟨y0, y1⟩, _⟩ := sbox_facts HBY.out
        clear k1
        go_wp2
        refine bodyPost_ret (v := .tuple #[.agg #[.int .i64 (0), .int .i64 (0)], .int .i64 (0), .bool false]) (by simp [results, Tryd.results4, go_sem, q0, q1]) rfl ⟨pcr_ret HE.out, ?_⟩
        first | exact (HB.out.setCell (Nat.le_refl _) _).setCell (Nat.le_refl _) _ | exact ((HB.out.alloc HB.out.size _).setCell (Nat.le_refl _) _).setCell (Nat.le_refl _) _ | exact HB.out | exact HB.out.alloc HB.out.size _
      | true =>
        by_cases hst : (s.extract 6 k).data.toList = [42]
        · have HE : Hid (pcr s.data.toList = ((0, 0), p, true)) := Lib.hid (by rw [HP.out, if_pos rfl, if_pos hst])
          have hqs : ((s.extract 6 k).toList == [42]) = true := by rw [HX3.out, hst]; rfl
          clear HK HP hst
          go_wp2_with (fail)
          go_at_call 7
          refine (HI.out _).mono ?_
          rintro e w3 ⟨rfl, k1⟩
          have HBX := Lib.hid (sbox_keep HBX.out k1)
          have HBY := Lib.hid (sbox_keep HBY.out k1)
          have HB := Lib.hid (Base.then_below HB.out k1)
          obtain ⟨⟨q0, q1⟩, z0, z1⟩ := sbox_facts HBX.out
          obtain ⟨⟨y0, y1⟩, _⟩ := sbox_facts HBY.out
          clear k1
          go_wp2
          refine bodyPost_ret (v := .tuple #[.agg #[.int .i64 (0), .int .i64 (0)], .int .i64 (p), .bool true]) (by simp [results, Tryd.results4, go_sem, q0, q1]) rfl ⟨pcr_ret HE.out, ?_⟩
          first | exact (HB.out.setCell (Nat.le_refl _) _).setCell (Nat.le_refl _) _ | exact ((HB.out.alloc HB.out.size _).setCell (Nat.le_refl _) _).setCell (Nat.le_refl _) _ | exact HB.out | exact HB.out.alloc HB.out.size _
        · have hqs : ((s.extract 6 k).toList == [42]) = false := by rw [HX3.out]; simpa using hst
          have HPP : Hid (pcr s.data.toList = if (pask (s.extract 6 k).data.toList).2 = true ∧ 0 ≤ (pask (s.extract 6 k).data.toList).1.1 ∧ 0 ≤ (pask (s.extract 6 k).data.toList).1.2 ∧ (pask (s.extract 6 k).data.toList).1.2 < p then (((pask (s.extract 6 k).data.toList).1.1, (pask (s.extract 6 k).data.toList).1.2 + 1), p, true) else ((0, 0), 0, false)) := Lib.hid (by rw [HP.out, if_pos rfl, if_neg hst])
          generalize pask (s.extract 6 k).data.toList = a at HK HPP
          obtain ⟨⟨a1, a2⟩, ok⟩ := a
          simp only at HK HPP
          clear hst HP
          go_wp2_with (fail)
          go_at_call 7
          refine (HI.out _).mono ?_
          rintro e w3 ⟨rfl, k1⟩
          have HBX := Lib.hid (sbox_keep HBX.out k1)
          have HBY := Lib.hid (sbox_keep HBY.out k1)
          have HB := Lib.hid (Base.then_below HB.out k1)
          obtain ⟨⟨q0, q1⟩, z0, z1⟩ := sbox_facts HBX.out
          obtain ⟨⟨y0, y1⟩, _⟩ := sbox_facts HBY.out
          have h3 := HPN.out
          clear k1 HI
          cases ok with
          | false =>
            have HE : Hid (pcr s.data.toList = ((0, 0), 0, false)) := Lib.hid (by rw [HPP.out]; simp)
            go_wp2_with (fail)
            go_at_call 8
            refine (HK.out _).mono ?_
            rintro e w4 ⟨rfl, k1⟩
            have HBX := Lib.hid (sbox_keep HBX.out k1)
            have HBY := Lib.hid (sbox_keep HBY.out k1)
            have HB := Lib.hid (Base.then_below HB.out k1)
            have HB := Lib.hid (HB.out.alloc HB.out.size (.cells #[.int .i64 a1, .int .i64 a2] 30))
            have HBX2 := Lib.hid (sbox_keep HBX.out ((Below.refl w4.heap.size w4).alloc (Nat.le_refl _) (.cells #[.int .i64 a1, .int .i64 a2] 30)))
            obtain ⟨⟨q0, q1⟩, z0, z1⟩ := sbox_facts HBX2.out
            have HBY2 := Lib.hid (sbox_keep HBY.out ((Below.refl w4.heap.size w4).alloc (Nat.le_refl _) (.cells #[.int .i64 a1, .int .i64 a2] 30)))
            obtain ⟨⟨y0, y1⟩, _⟩ := sbox_facts HBY2.out
            clear k1
            go_wp2
            refine bodyPost_ret (v := .tuple #[.agg #[.int .i64 (0), .int .i64 (0)], .int .i64 (0), .bool false]) (by simp [results, Tryd.results4, go_sem, q0, q1]) rfl ⟨pcr_ret HE.out, ?_⟩
            first | exact (HB.out.setCell (Nat.le_refl _) _).setCell (Nat.le_refl _) _ | exact ((HB.out.alloc HB.out.size _).setCell (Nat.le_refl _) _).setCell (Nat.le_refl _) _ | exact HB.out | exact HB.out.alloc HB.out.size _
          | true =>
            by_cases g1 : a1 < 0
            · have HE : Hid (pcr s.data.toList = ((0, 0), 0, false)) := Lib.hid (by rw [HPP.out, if_neg (by rintro ⟨_, h, _⟩; omega)])
              go_wp2_with (fail)
              go_at_call 8
              refine (HK.out _).mono ?_
              rintro e w4 ⟨rfl, k1⟩
              have HBX := Lib.hid (sbox_keep HBX.out k1)
              have HBY := Lib.hid (sbox_keep HBY.out k1)
              have HB := Lib.hid (Base.then_below HB.out k1)
              have HB := Lib.hid (HB.out.alloc HB.out.size (.cells #[.int .i64 a1, .int .i64 a2] 30))
              have HBX2 := Lib.hid (sbox_keep HBX.out ((Below.refl w4.heap.size w4).alloc (Nat.le_refl _) (.cells #[.int .i64 a1, .int .i64 a2] 30)))
              obtain ⟨⟨q0, q1⟩, z0, z1⟩ := sbox_facts HBX2.out
              have HBY2 := Lib.hid (sbox_keep HBY.out ((Below.refl w4.heap.size w4).alloc (Nat.le_refl _) (.cells #[.int .i64 a1, .int .i64 a2] 30)))
              obtain ⟨⟨y0, y1⟩, _⟩ := sbox_facts HBY2.out
              clear k1
              go_wp2
              refine bodyPost_ret (v := .tuple #[.agg #[.int .i64 (0), .int .i64 (0)], .int .i64 (0), .bool false]) (by simp [results, Tryd.results4, go_sem, q0, q1]) rfl ⟨pcr_ret HE.out, ?_⟩
              first | exact (HB.out.setCell (Nat.le_refl _) _).setCell (Nat.le_refl _) _ | exact ((HB.out.alloc HB.out.size _).setCell (Nat.le_refl _) _).setCell (Nat.le_refl _) _ | exact HB.out | exact HB.out.alloc HB.out.size _
            by_cases g2 : a2 < 0
            · have HE : Hid (pcr s.data.toList = ((0, 0), 0, false)) := Lib.hid (by rw [HPP.out, if_neg (by rintro ⟨_, _, h, _⟩; omega)])
              go_wp2_with (fail)
              go_at_call 8
              refine (HK.out _).mono ?_
              rintro e w4 ⟨rfl, k1⟩
              have HBX := Lib.hid (sbox_keep HBX.out k1)
              have HBY := Lib.hid (sbox_keep HBY.out k1)
              have HB := Lib.hid (Base.then_below HB.out k1)
              have HB := Lib.hid (HB.out.alloc HB.out.size (.cells #[.int .i64 a1, .int .i64 a2] 30))
              have HBX2 := Lib.hid (sbox_keep HBX.out ((Below.refl w4.heap.size w4).alloc (Nat.le_refl _) (.cells #[.int .i64 a1, .int .i64 a2] 30)))
              obtain ⟨⟨q0, q1⟩, z0, z1⟩ := sbox_facts HBX2.out
              have HBY2 := Lib.hid (sbox_keep HBY.out ((Below.refl w4.heap.size w4).alloc (Nat.le_refl _) (.cells #[.int .i64 a1, .int .i64 a2] 30)))
              obtain ⟨⟨y0, y1⟩, _⟩ := sbox_facts HBY2.out
              clear k1
              go_wp2
              refine bodyPost_ret (v := .tuple #[.agg #[.int .i64 (0), .int .i64 (0)], .int .i64 (0), .bool false]) (by simp [results, Tryd.results4, go_sem, q0, q1]) rfl ⟨pcr_ret HE.out, ?_⟩
              first | exact (HB.out.setCell (Nat.le_refl _) _).setCell (Nat.le_refl _) _ | exact ((HB.out.alloc HB.out.size _).setCell (Nat.le_refl _) _).setCell (Nat.le_refl _) _ | exact HB.out | exact HB.out.alloc HB.out.size _
            by_cases g3 : p ≤ a2
            · have HE : Hid (pcr s.data.toList = ((0, 0), 0, false)) := Lib.hid (by rw [HPP.out, if_neg (by rintro ⟨_, _, _, h⟩; omega)])
              go_wp2_with (fail)
              go_at_call 8
              refine (HK.out _).mono ?_
              rintro e w4 ⟨rfl, k1⟩
              have HBX := Lib.hid (sbox_keep HBX.out k1)
              have HBY := Lib.hid (sbox_keep HBY.out k1)
              have HB := Lib.hid (Base.then_below HB.out k1)
              have HB := Lib.hid (HB.out.alloc HB.out.size (.cells #[.int .i64 a1, .int .i64 a2] 30))
              have HBX2 := Lib.hid (sbox_keep HBX.out ((Below.refl w4.heap.size w4).alloc (Nat.le_refl _) (.cells #[.int .i64 a1, .int .i64 a2] 30)))
              obtain ⟨⟨q0, q1⟩, z0, z1⟩ := sbox_facts HBX2.out
              have HBY2 := Lib.hid (sbox_keep HBY.out ((Below.refl w4.heap.size w4).alloc (Nat.le_refl _) (.cells #[.int .i64 a1, .int .i64 a2] 30)))
              obtain ⟨⟨y0, y1⟩, _⟩ := sbox_facts HBY2.out
              clear k1
              go_wp2
              refine bodyPost_ret (v := .tuple #[.agg #[.int .i64 (0), .int .i64 (0)], .int .i64 (0), .bool false]) (by simp [results, Tryd.results4, go_sem, q0, q1]) rfl ⟨pcr_ret HE.out, ?_⟩
              first | exact (HB.out.setCell (Nat.le_refl _) _).setCell (Nat.le_refl _) _ | exact ((HB.out.alloc HB.out.size _).setCell (Nat.le_refl _) _).setCell (Nat.le_refl _) _ | exact HB.out | exact HB.out.alloc HB.out.size _
            have HE : Hid (pcr s.data.toList = ((a1, a2 + 1), p, true)) := Lib.hid (by rw [HPP.out, if_pos ⟨rfl, by omega, by omega, by omega⟩])
            have g4 : 0 ≤ a2 := by omega
            have g5 : a2 ≤ 1000000000000 := by omega
            go_wp2_with (fail)
            go_at_call 8
            refine (HK.out _).mono ?_
            rintro e w4 ⟨rfl, k1⟩
            have HBX := Lib.hid (sbox_keep HBX.out k1)
            have HBY := Lib.hid (sbox_keep HBY.out k1)
            have HB := Lib.hid (Base.then_below HB.out k1)
            have HB := Lib.hid (HB.out.alloc HB.out.size (.cells #[.int .i64 a1, .int .i64 a2] 30))
            have HBX2 := Lib.hid (sbox_keep HBX.out ((Below.refl w4.heap.size w4).alloc (Nat.le_refl _) (.cells #[.int .i64 a1, .int .i64 a2] 30)))
            obtain ⟨⟨q0, q1⟩, z0, z1⟩ := sbox_facts HBX2.out
            have HBY2 := Lib.hid (sbox_keep HBY.out ((Below.refl w4.heap.size w4).alloc (Nat.le_refl _) (.cells #[.int .i64 a1, .int .i64 a2] 30)))
            obtain ⟨⟨y0, y1⟩, _⟩ := sbox_facts HBY2.out
            clear k1
            go_wp2
            refine bodyPost_ret (v := .tuple #[.agg #[.int .i64 (a1), .int .i64 (a2 + 1)], .int .i64 (p), .bool true]) (by simp [results, Tryd.results4, go_sem, q0, q1]) rfl ⟨pcr_ret HE.out, ?_⟩
            first | exact (HB.out.setCell (Nat.le_refl _) _).setCell (Nat.le_refl _) _ | exact ((HB.out.alloc HB.out.size _).setCell (Nat.le_refl _) _).setCell (Nat.le_refl _) _ | exact HB.out | exact HB.out.alloc HB.out.size _
theorem spec_pcr (l : List UInt8) (w : World) (hl : l.length ≤ 1048576) : Calls Tryd.prog 4 #[.string ⟨l.toArray⟩] w (PcrEnd l w) := spec_pcr_s ⟨l.toArray⟩ w (by simpa [ByteArray.size] using hl)
end Go.Proofs.YtmfgflbbojaghaaDoor.Rng
