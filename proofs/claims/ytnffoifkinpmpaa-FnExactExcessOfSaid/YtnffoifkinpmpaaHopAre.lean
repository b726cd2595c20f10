/-
  CONTRACTS of both sides' AreHops and ExcessOf; nothing that was there before is changed.
-/
import Derived.Test.YtnffoifkinpmpaaHopIs
import Derived.Test.YtnffoifkinpmpaaMaxI
import Derived.Test.YtnffoifkinpmpaaMaxS
import Derived.IntWalk
namespace Go.Proofs.Ytnffoifkinpmpaa.Hps
open Go Go.RowKit
set_option linter.unusedVariables false
set_option maxRecDepth 1000000

def okn (l : List T) (k : Nat) : Bool := (l.take k).all okh
def okl (l : List T) : Bool := l.all okh && decide (l.length ≤ 8)
theorem take_more {l : List T} {k : Nat} (h : k < l.length) : l.take (k + 1) = l.take k ++ [l.getD k nov] := by
  rw [List.take_succ_eq_append_getElem h, show l.getD k nov = l[k] by simp [List.getD, h]]
theorem okn_step {l : List T} {k : Nat} (hk : k < l.length) (h : okn l k = true) (h2 : okh (l.getD k nov) = true) : okn l (k + 1) = true := by
  have e : [l.getD k nov].all okh = true := by rw [List.all_cons, h2]; rfl
  unfold okn at h ⊢; rw [take_more hk, List.all_append, h, e]; rfl
theorem okl_bad {l : List T} {k : Nat} (hk : k < l.length) (h : okh (l.getD k nov) = false) : okl l = false := by
  have : l.all okh = false := by
    rw [List.all_eq_false]; exact ⟨l.getD k nov, Rec.getD_mem hk, by rw [h]; decide⟩
  unfold okl; rw [this]; rfl
theorem okl_all {l : List T} {k : Nat} (h : okn l k = true) (hn : ¬ k < l.length) : okl l = decide ((l.length : Int) ≤ 8) := by
  unfold okn at h; rw [List.take_of_length_le (by omega)] at h
  unfold okl; rw [h, Bool.true_and]; simp; omega
def exc (l : List T) : Int := l.foldl (fun n f => max n f.1) 0
theorem exc_more {l : List T} {k : Nat} (hk : k < l.length) : exc (l.take (k + 1)) = max (exc (l.take k)) (l.getD k nov).1 := by
  unfold exc; rw [take_more hk, List.foldl_append]; rfl
theorem exc_all {l : List T} {k : Nat} (hn : ¬ k < l.length) : exc (l.take k) = exc l := by rw [List.take_of_length_le (by omega)]
theorem exc_zero (l : List T) : exc (l.take 0) = 0 := rfl
def IntEnd (n : Int) (w : World) (e : Ending) (w' : World) : Prop := e = .returned (.int .i64 n) ∧ Below w.heap.size w w'
theorem ret_i {a b : Int} (h : a = b) : Ending.returned (.int .i64 a) = .returned (.int .i64 b) := by rw [h]
theorem shape_p {w : World} {B : Nat} {v : Value} {l : List T} (h : Holds w B v l) : ∃ a cap, v = .slice a l.length cap ∧ (0 < l.length → ∃ b off, a = some ⟨b, off, none⟩ ∧ b < B ∧ l.length ≤ cap ∧ At w b off l) := by
  rcases h with ⟨rfl, a, cap, rfl⟩ | ⟨h0, b, off, cap, rfl, hb, hcap, hc⟩
  · exact ⟨a, cap, rfl, fun h => by simp at h⟩
  · exact ⟨_, cap, rfl, fun _ => ⟨b, off, rfl, hb, hcap, hc⟩⟩

set_option maxHeartbeats 2000000 in
theorem spec_are (v : Value) (B : Nat) (l : List T) (w : World) (h : Holds w B v l) (hB : B ≤ w.heap.size) (hl : l.length ≤ 4194304) :
    Calls Try.prog 15 #[v] w (BoolEnd (okl l) w) := by
  obtain ⟨a, cap, rfl, ha⟩ := shape_p h
  have HA := Lib.hid ha
  clear ha h
  go_enter Try.func15, Try.ntmps15
  go_wp2
  go_loopw [3] (fun i wr => ∃ k : Nat, k ≤ l.length ∧ i = .int .i64 (k : Int) ∧ Hid (okn l k = true) ∧ Below w.heap.size w wr) (fun i _ => l.length - (intOf i).toNat)
  case atStart => exact ⟨0, Nat.zero_le _, rfl, Lib.hid rfl, Below.refl _ _⟩
  case round =>
    obtain ⟨k, hk, rfl, HP, hb⟩ := hrel
    have HB := Lib.hid hb
    by_cases hlt : k < l.length
    · obtain ⟨b, off, rfl, hbw, hcap, hc⟩ := HA.out (by omega)
      obtain ⟨c0, c1, c2⟩ := at_cells (at_below hc hb (Nat.lt_of_lt_of_le hbw hB)) hlt
      have HS := Lib.hid (fun h => okn_step (k := k) hlt HP.out h)
      have HN := Lib.hid (fun h => okl_bad hlt h)
      clear hb hc
      generalize l.getD k nov = x at c0 c1 c2 HS HN
      obtain ⟨x, y, z⟩ := x
      simp only at c0 c1 c2 HS HN
      have HCB := Lib.hid (fun W => spec_hop x y z W)
      unfold fv at HCB
      have HBA := Lib.hid (HB.out.alloc HB.out.size (.cells #[.int .i64 x, .int .i64 y, .int .i64 z] 25))
      have hki : (k : Int) < (l.length : Int) := by omega
      cases hcan : okh (x, y, z) with
      | false =>
        have HE := Lib.hid (HN.out hcan)
        rw [hcan] at HCB
        clear HS HN hcan
        go_wp2_with (fail)
        go_at_call 11
        refine (HCB.out _).mono ?_
        rintro e w' ⟨rfl, hb'⟩
        have HBB := Lib.hid (Base.then_below HB.out hb')
        clear hb'
        go_wp2
        go_ret
        exact ⟨ret_b HE.out.symm, HBB.out⟩
      | true =>
        have HE := Lib.hid (HS.out hcan)
        rw [hcan] at HCB
        clear HS HN hcan
        go_wp2_with (fail)
        go_at_call 11
        refine (HCB.out _).mono ?_
        rintro e w' ⟨rfl, hb'⟩
        have HBB := Lib.hid (Base.then_below HB.out hb')
        clear hb'
        go_wp2
        go_roundw
        case rel => exact ⟨k + 1, by omega, by go_num, HE, HBB.out⟩
        case measure => simp [intOf]; omega
    · have HE := Lib.hid (okl_all HP.out hlt)
      clear hb
      by_cases h8 : (l.length : Int) ≤ 8
      · have HF : Hid (okl l = true) := Lib.hid (by rw [HE.out]; simpa using h8)
        clear HE
        go_wp2
        go_ret
        exact ⟨ret_b HF.out.symm, HB.out⟩
      · have HF : Hid (okl l = false) := Lib.hid (by rw [HE.out]; simpa using h8)
        clear HE
        go_wp2
        go_ret
        exact ⟨ret_b HF.out.symm, HB.out⟩

set_option maxHeartbeats 2000000 in
theorem impl_are (v : Value) (B : Nat) (l : List T) (w : World) (h : Holds w B v l) (hB : B ≤ w.heap.size) (hl : l.length ≤ 4194304) :
    Calls Try.prog 17 #[v] w (BoolEnd (okl l) w) := by
  obtain ⟨a, cap, rfl, ha⟩ := shape_p h
  have HA := Lib.hid ha
  clear ha h
  go_enter Try.func17, Try.ntmps17
  go_wp2
  go_loopw [7] (fun i wr => ∃ k : Nat, k ≤ l.length ∧ i = .int .i64 (k : Int) ∧ Hid (okn l k = true) ∧ Below w.heap.size w wr) (fun i _ => l.length - (intOf i).toNat)
  case atStart => exact ⟨0, Nat.zero_le _, rfl, Lib.hid rfl, Below.refl _ _⟩
  case round =>
    obtain ⟨k, hk, rfl, HP, hb⟩ := hrel
    have HB := Lib.hid hb
    by_cases hlt : k < l.length
    · obtain ⟨b, off, rfl, hbw, hcap, hc⟩ := HA.out (by omega)
      obtain ⟨c0, c1, c2⟩ := at_cells (at_below hc hb (Nat.lt_of_lt_of_le hbw hB)) hlt
      have HS := Lib.hid (fun h => okn_step (k := k) hlt HP.out h)
      have HN := Lib.hid (fun h => okl_bad hlt h)
      clear hb hc
      generalize l.getD k nov = x at c0 c1 c2 HS HN
      obtain ⟨x, y, z⟩ := x
      simp only at c0 c1 c2 HS HN
      have HCB := Lib.hid (fun W => impl_hop x y z W)
      unfold fv at HCB
      have HBA := Lib.hid (HB.out.alloc HB.out.size (.cells #[.int .i64 x, .int .i64 y, .int .i64 z] 25))
      have hki : (k : Int) < (l.length : Int) := by omega
      cases hcan : okh (x, y, z) with
      | false =>
        have HE := Lib.hid (HN.out hcan)
        rw [hcan] at HCB
        clear HS HN hcan
        go_wp2_with (fail)
        go_at_call 13
        refine (HCB.out _).mono ?_
        rintro e w' ⟨rfl, hb'⟩
        have HBB := Lib.hid (Base.then_below HBA.out hb')
        clear hb'
        go_wp2
        go_ret
        exact ⟨ret_b HE.out.symm, HBB.out⟩
      | true =>
        have HE := Lib.hid (HS.out hcan)
        rw [hcan] at HCB
        clear HS HN hcan
        go_wp2_with (fail)
        go_at_call 13
        refine (HCB.out _).mono ?_
        rintro e w' ⟨rfl, hb'⟩
        have HBB := Lib.hid (Base.then_below HBA.out hb')
        clear hb'
        go_wp2
        go_roundw
        case rel => exact ⟨k + 1, by omega, by go_num, HE, HBB.out⟩
        case measure => simp [intOf]; omega
    · have HE := Lib.hid (okl_all HP.out hlt)
      clear hb
      by_cases h8 : (l.length : Int) ≤ 8
      · have HF : Hid (okl l = true) := Lib.hid (by rw [HE.out]; simpa using h8)
        clear HE
        go_wp2
        go_ret
        exact ⟨ret_b HF.out.symm, HB.out⟩
      · have HF : Hid (okl l = false) := Lib.hid (by rw [HE.out]; simpa using h8)
        clear HE
        go_wp2
        go_ret
        exact ⟨ret_b HF.out.symm, HB.out⟩

set_option maxHeartbeats 2000000 in
theorem spec_exc (v : Value) (B : Nat) (l : List T) (w : World) (h : Holds w B v l) (hB : B ≤ w.heap.size) (hl : l.length ≤ 4194304) :
    Calls Try.prog 19 #[v] w (IntEnd (exc l) w) := by
  obtain ⟨a, cap, rfl, ha⟩ := shape_p h
  have HA := Lib.hid ha
  clear ha h
  go_enter Try.func19, Try.ntmps19
  go_wp2
  go_loopw [3, 4] (fun n i wr => ∃ k : Nat, k ≤ l.length ∧ i = .int .i64 (k : Int) ∧ n = .int .i64 (exc (l.take k)) ∧ Below w.heap.size w wr) (fun _ i _ => l.length - (intOf i).toNat)
  case atStart => exact ⟨0, Nat.zero_le _, rfl, by rw [exc_zero], Below.refl _ _⟩
  case round =>
    obtain ⟨k, hk, rfl, rfl, hb⟩ := hrel
    have HB := Lib.hid hb
    by_cases hlt : k < l.length
    · obtain ⟨b, off, rfl, hbw, hcap, hc⟩ := HA.out (by omega)
      obtain ⟨c0, c1, c2⟩ := at_cells (at_below hc hb (Nat.lt_of_lt_of_le hbw hB)) hlt
      have HM := Lib.hid (exc_more hlt)
      clear hb hc
      generalize l.getD k nov = x at c0 c1 c2 HM
      generalize exc (l.take k) = n at HM ⊢
      obtain ⟨x, y, z⟩ := x
      simp only at c0 c1 c2 HM
      have HBA := Lib.hid (HB.out.alloc HB.out.size (.cells #[.int .i64 x, .int .i64 y, .int .i64 z] 25))
      have hki : (k : Int) < (l.length : Int) := by omega
      go_wp2_with (fail)
      go_at_call 47
      refine (Mm.spec_max _ _ _).mono ?_
      rintro e w' ⟨rfl, rfl⟩
      go_wp2
      go_roundw
      case rel => exact ⟨k + 1, by omega, by go_num, by rw [HM.out], by first | exact HBA.out | exact HB.out⟩
      case measure => simp [intOf]; omega
    · have HE := Lib.hid (exc_all hlt)
      clear hb
      go_wp2
      go_ret
      exact ⟨ret_i HE.out, HB.out⟩

set_option maxHeartbeats 2000000 in
theorem impl_exc (v : Value) (B : Nat) (l : List T) (w : World) (h : Holds w B v l) (hB : B ≤ w.heap.size) (hl : l.length ≤ 4194304) :
    Calls Try.prog 20 #[v] w (IntEnd (exc l) w) := by
  obtain ⟨a, cap, rfl, ha⟩ := shape_p h
  have HA := Lib.hid ha
  clear ha h
  go_enter Try.func20, Try.ntmps20
  go_wp2
  go_loopw [3, 8] (fun n i wr => ∃ k : Nat, k ≤ l.length ∧ i = .int .i64 (k : Int) ∧ n = .int .i64 (exc (l.take k)) ∧ Below w.heap.size w wr) (fun _ i _ => l.length - (intOf i).toNat)
  case atStart => exact ⟨0, Nat.zero_le _, rfl, by rw [exc_zero], Below.refl _ _⟩
  case round =>
    obtain ⟨k, hk, rfl, rfl, hb⟩ := hrel
    have HB := Lib.hid hb
    by_cases hlt : k < l.length
    · obtain ⟨b, off, rfl, hbw, hcap, hc⟩ := HA.out (by omega)
      obtain ⟨c0, c1, c2⟩ := at_cells (at_below hc hb (Nat.lt_of_lt_of_le hbw hB)) hlt
      have HM := Lib.hid (exc_more hlt)
      clear hb hc
      generalize l.getD k nov = x at c0 c1 c2 HM
      generalize exc (l.take k) = n at HM ⊢
      obtain ⟨x, y, z⟩ := x
      simp only at c0 c1 c2 HM
      have HBA := Lib.hid (HB.out.alloc HB.out.size (.cells #[.int .i64 x, .int .i64 y, .int .i64 z] 25))
      have hki : (k : Int) < (l.length : Int) := by omega
      go_wp2_with (fail)
      go_at_call 48
      refine (Mm.impl_max _ _ _).mono ?_
      rintro e w' ⟨rfl, rfl⟩
      go_wp2
      go_roundw
      case rel => exact ⟨k + 1, by omega, by go_num, by rw [HM.out], by first | exact HBA.out | exact HB.out⟩
      case measure => simp [intOf]; omega
    · have HE := Lib.hid (exc_all hlt)
      clear hb
      go_wp2
      go_ret
      exact ⟨ret_i HE.out, HB.out⟩
end Go.Proofs.Ytnffoifkinpmpaa.Hps
