/-
  CONTRACTS AND PLAIN FACTS, several texts in one; each says in its own words what it proves.
-/
import Derived.Test.YtojmkdggkaocdaaGreatDoorPqA
import Derived.LoopTactic
import Derived.Laws.IdiomStrings
import Derived.Laws.Concat
import Derived.Outline
import Derived.Deep.RegionWith
import Derived.RegionTactic
import Derived.Test.YtojmkdggkaocdaaGreatDoorPqC
import Derived.Test.YtojmkdggkaocdaaGreatDoorPqH
import Derived.Test.YtojmkdggkaocdaaGreatDoorPqK
import Derived.Stop.LaidErr
set_option linter.unusedSimpArgs false
set_option linter.unusedVariables false

/-
  PLAIN FACTS on texts that are built byte by byte: a byte in a new block of its own read back as a text; a text with a byte in front.
-/
namespace Go.Proofs.YtojmkdggkaocdaaGreatDoor.Str
open Go Go.RowKit
set_option linter.unusedVariables false
set_option maxRecDepth 1000000

theorem ret_str {a b : List UInt8} (h : a = b) : Ending.returned (.string ⟨a.toArray⟩) = .returned (.string ⟨b.toArray⟩) := by rw [h]
theorem byteback (wr : World) (z : Int) (c : UInt8) (h : (c.toNat : Int) = z) :
    (convert 149 9 (.slice (some ⟨wr.heap.size, 0, none⟩) 1 1)).run Tryz.prog (wr.alloc (.cells #[.int .u8 z] 5)) = .ok (.string ⟨[c].toArray⟩) (wr.alloc (.cells #[.int .u8 z] 5)) := by
  have h := run_convert_bytes_back (P := Tryz.prog) (wr.alloc (.cells #[.int .u8 z] 5)) 149 9 5 ⟨wr.heap.size, 0, none⟩ 1 [c] Tryz.underlying149 Tryz.underlying5 Tryz.underlying9 (fun j hj => by
    have hj0 : j = 0 := by simpa using hj
    subst hj0
    show World.cell? _ ⟨wr.heap.size, 0 + 0, none⟩ = _
    rw [World.cell?_alloc_new, ← h]
    simp)
  exact h
theorem addone (c : UInt8) (suf : List UInt8) (h : suf.length ≤ 1000000000) (W : World) :
    (Op.stringOp .add ⟨[c].toArray⟩ ⟨suf.toArray⟩).run Tryz.prog W = .ok (.string ⟨(c :: suf).toArray⟩) W := by
  rw [run_string_add_sum W _ _ (by simp [ByteArray.size]; omega)]; rfl
end Go.Proofs.YtojmkdggkaocdaaGreatDoor.Str

/-
  CONTRACT of the laws' markText: at every positive integer that is not too great it returns a text that depends on the integer alone; nothing that was there before is changed.
-/
namespace Go.Proofs.YtojmkdggkaocdaaGreatDoor.Mark
open Go Go.RowKit
set_option linter.unusedVariables false
set_option maxRecDepth 1000000

def dgs (n : Nat) (acc : List UInt8) : List UInt8 := if n = 0 then acc else dgs (n / 10) (UInt8.ofNat (48 + n % 10) :: acc)
  termination_by n
  decreasing_by omega
theorem dgs_zero (acc : List UInt8) : dgs 0 acc = acc := by rw [dgs, if_pos rfl]
theorem dgs_pos {n : Nat} (acc : List UInt8) (h : 0 < n) : dgs n acc = dgs (n / 10) (UInt8.ofNat (48 + n % 10) :: acc) := by
  conv => lhs; rw [dgs, if_neg (by omega)]
def mt (n : Nat) : List UInt8 := 109 :: dgs n []
theorem dig_nat (n : Nat) : ((UInt8.ofNat (48 + n % 10)).toNat : Int) = 48 + ((n : Int) % 10) := by
  have : (UInt8.ofNat (48 + n % 10)).toNat = (48 + n % 10) % 256 := UInt8.toNat_ofNat'
  rw [this]; omega
theorem ret_mt {l : List UInt8} {n : Nat} (h : l = dgs n []) : Ending.returned (.string ⟨(109 :: l).toArray⟩) = .returned (.string ⟨(mt n).toArray⟩) := by rw [h]; rfl

set_option maxHeartbeats 1000000 in
theorem mark_text (n : Nat) (w : World) (h1 : 1 ≤ n) (h2 : n ≤ 100000000) :
    Calls Tryz.prog 95 #[.int .i64 (n : Int)] w fun e w' => e = .returned (.string ⟨(mt n).toArray⟩) ∧ Below w.heap.size w w' := by
  have hpos : ¬ (n : Int) ≤ 0 := by omega
  go_enter Tryz.func95, Tryz.ntmps95
  go_wp2
  go_loopw [0, 3] (fun x s wr => ∃ (m : Nat) (l : List UInt8), x = .int .i64 (m : Int) ∧ s = .string ⟨l.toArray⟩ ∧ l.length + m ≤ n ∧ dgs m l = dgs n [] ∧ Below w.heap.size w wr) (fun x _ _ => (intOf x).toNat)
  case atStart => exact ⟨n, [], rfl, rfl, by simp, rfl, Below.refl _ _⟩
  case round =>
    obtain ⟨m, l, rfl, rfl, hlm, hd, hb⟩ := hrel
    have HD := Lib.hid hd
    have HB := Lib.hid hb
    clear hd hb
    by_cases hz : 0 < m
    · have hzi : 0 < (m : Int) := by omega
      have HE := Lib.hid ((dgs_pos l hz).symm.trans HD.out)
      have hcv := Str.byteback wr (48 + (m : Int) % 10) (UInt8.ofNat (48 + m % 10)) (dig_nat m)
      have hadd := Str.addone (UInt8.ofNat (48 + m % 10)) l (by omega)
      have HS := Lib.hid (show (m : Int) / 10 = ((m / 10 : Nat) : Int) by omega)
      have hl2 : 0 ≤ (m : Int) % 10 := by omega
      have hl3 : (m : Int) % 10 ≤ 9 := by omega
      have hm2 : (m : Int) ≤ 100000000 := by omega
      generalize UInt8.ofNat (48 + m % 10) = c at *
      go_wp2
      go_roundw
      case rel => exact ⟨m / 10, c :: l, by rw [← HS.out], rfl, by simp; omega, HE.out, HB.out.alloc HB.out.size _⟩
      case measure => simp [intOf]; omega
    · obtain rfl : m = 0 := by omega
      have HE := Lib.hid ((dgs_zero l).symm.trans HD.out)
      have hadd := Str.addone 109 l (by omega)
      go_wp2
      go_ret
      exact ⟨ret_mt HE.out, HB.out⟩
/-- The same at an integer. -/
def mtI (q : Int) : List UInt8 := mt q.toNat
theorem mark_int (q : Int) (w : World) (h1 : 1 ≤ q) (h2 : q ≤ 100000000) :
    Calls Tryz.prog 95 #[.int .i64 q] w fun e w' => e = .returned (.string ⟨(mtI q).toArray⟩) ∧ Below w.heap.size w w' := by
  obtain ⟨n, rfl⟩ : ∃ n : Nat, q = n := ⟨q.toNat, by omega⟩
  exact mark_text n w (by omega) (by omega)
end Go.Proofs.YtojmkdggkaocdaaGreatDoor.Mark

/-
  CONTRACTS of the laws' markFieldS and heldFieldS: the first writes marks into a slice of fields that is one's own, the second finds them there; nothing older than that slice is changed.
-/
namespace Go.Proofs.YtojmkdggkaocdaaGreatDoor.Flds
open Go Go.RowKit Mark
set_option linter.unusedVariables false
set_option maxRecDepth 1000000

def mka (k j : Nat) : List UInt8 := mt (k + j * 2)
def mkb (k j : Nat) : List UInt8 := mt (k + j * 2 + 1)
def mkl (k n : Nat) : List Fld := (List.range n).map (fun i => (mka k i, mkb k i))
theorem mkl_len (k n : Nat) : (mkl k n).length = n := by unfold mkl; simp
theorem mkl_at {k n j : Nat} (h : j < n) : (mkl k n).getD j nofld = (mka k j, mkb k j) := by unfold mkl; simp [List.getD, h]
/-- The first j places are marked. -/
def mks (l : List Fld) (k j : Nat) : List Fld := mkl k j ++ l.drop j
theorem mks_zero (l : List Fld) (k : Nat) : mks l k 0 = l := by unfold mks mkl; simp
theorem mks_len {l : List Fld} {k j : Nat} (h : j ≤ l.length) : (mks l k j).length = l.length := by unfold mks; rw [List.length_append, mkl_len, List.length_drop]; omega
theorem mks_more {l : List Fld} {k j : Nat} (h : j < l.length) : (mks l k j).set j (mka k j, mkb k j) = mks l k (j + 1) := by
  unfold mks
  rw [List.set_append_right _ _ (by rw [mkl_len]; exact Nat.le_refl _), mkl_len, Nat.sub_self, List.drop_eq_getElem_cons h, List.set_cons_zero]
  unfold mkl
  rw [List.range_succ, List.map_append, List.append_assoc]; rfl
theorem mks_all {l : List Fld} {k j : Nat} (h : j = l.length) : mks l k j = mkl k l.length := by unfold mks; subst h; simp
theorem ret_nat {a b : Nat} (h : a = b) : Ending.returned (.int .i64 (a : Int)) = .returned (.int .i64 (b : Int)) := by rw [h]

def Marked (B : Nat) (v : Value) (k n : Nat) (w : World) (e : Ending) (w' : World) : Prop := e = .returned (.int .i64 ((k + n * 2 : Nat) : Int)) ∧ Own w' B v (mkl k n) ∧ w.grownBy w' v.ownBlock
theorem grown_trans {a b c : World} {row : Option Nat} (h : a.grownBy b row) (k : b.grownBy c row) : a.grownBy c row := ⟨k.os.trans h.os, k.tape.trans h.tape, k.output.trans h.output, Nat.le_trans h.size k.size, fun i hi hr => (k.block i (Nat.lt_of_lt_of_le hi h.size) hr).trans (h.block i hi hr)⟩
theorem grown_of_below {a b : World} {row : Option Nat} (h : Below a.heap.size a b) : a.grownBy b row := ⟨h.os, h.tape, h.output, h.size, fun i hi _ => h.block i hi⟩
theorem shape_at {w : World} {B : Nat} {v : Value} {T : TypeId} {s n : Nat} {xs : List Value} (h : w.ownsRow B T s v n xs) : ∃ a cap, v = .slice a n cap ∧ (0 < n → ∃ g, a = some ⟨g, 0, none⟩) := by
  rcases h.2 with ⟨rfl, h0⟩ | ⟨g, cap, cur, rfl, _⟩
  · exact ⟨none, 0, by rw [h0], fun h' => by omega⟩
  · exact ⟨_, cap, rfl, fun _ => ⟨g, rfl⟩⟩

set_option maxHeartbeats 2000000 in
theorem mark_flds (B : Nat) (v : Value) (l : List Fld) (k : Nat) (w : World) (hown : Own w B v l) (hB : B ≤ w.heap.size) (hk : 1 ≤ k) (hn : k + l.length * 2 ≤ 100000000) :
    Calls Tryz.prog 49 #[v, .int .i64 (k : Int)] w (Marked B v k l.length w) := by
  obtain ⟨a, cap, rfl, ha⟩ := shape_at hown
  have HA := Lib.hid ha
  have HO := Lib.hid hown
  clear ha hown
  go_enter Tryz.func49, Tryz.ntmps49
  go_wp2
  go_loopw [1, 5] (fun q i wr => ∃ j : Nat, j ≤ l.length ∧ i = .int .i64 (j : Int) ∧ q = .int .i64 ((k + j * 2 : Nat) : Int) ∧ wr.ownsRow B 119 2 (.slice a l.length cap) l.length (fcs (mks l k j)) ∧ w.grownBy wr (Value.ownBlock (.slice a l.length cap))) (fun _ i _ => l.length - (intOf i).toNat)
  case atStart => exact ⟨0, Nat.zero_le _, rfl, rfl, by rw [mks_zero]; exact HO.out, grown_of_below (Below.refl _ _)⟩
  case round =>
    clear HO
    obtain ⟨j, hj, rfl, rfl, hown, hb⟩ := hrel
    by_cases hlt : j < l.length
    · obtain ⟨g, rfl⟩ := HA.out (by omega)
      have HB := Lib.hid hb
      have HO := Lib.hid hown
      have HM := Lib.hid (mks_more (k := k) hlt)
      have hF := fcs_len (mks l k j)
      rw [mks_len (Nat.le_of_lt hlt)] at hF
      have HF := Lib.hid hF
      have HK : Hid (k + j * 2 + 1 ≤ 100000000) := Lib.hid (by omega)
      have HG := Lib.hid (hown.lt g rfl)
      clear hb hown hF
      go_wp2_with (fail)
      go_at_call 95
      refine (mark_text (k + j * 2) wr (by omega) (by have := HK.out; omega)).mono ?_
      rintro e w1 ⟨rfl, hb1⟩
      have hr1 := row_below HO.out hb1
      obtain ⟨d1, d2⟩ := own_cell hr1 hlt
      have f1 := hr1.frozenAt (j * 2)
      have s1 := hr1.stored (j * 2) (sv (mka k j))
      have HS1 := Lib.hid s1.1
      have HB1 := Lib.hid (grown_trans (grown_trans HB.out (grown_of_below hb1)) s1.2)
      clear hb1 hr1 s1
      unfold sv at d1 d2
      rw [show mt (k + j * 2) = mka k j from rfl]
      unfold sv at HS1 HB1
      generalize hxa : mka k j = xa at HS1 HB1 HM ⊢
      have HD := Lib.hid ((fcs_at (l := mks l k j) (j := j) (by rw [mks_len (Nat.le_of_lt hlt)]; exact hlt)).2)
      unfold sv at HD
      generalize ((mks l k j).getD j nofld) = old at d1 d2 HD
      go_wp2_with (fail)
      go_at_call 95
      have c2 := mark_text (k + j * 2 + 1) (w1.setCell ⟨g, j * 2, none⟩ (.string ⟨xa.toArray⟩)) (by omega) (by have := HK.out; omega)
      rw [show ((k + j * 2 + 1 : Nat) : Int) = (k : Int) + (j : Int) * 2 + 1 by omega] at c2
      refine c2.mono ?_
      rintro e w2 ⟨rfl, hb2⟩
      have hr2 := row_below HS1.out hb2
      have e1 : w2.cell? ⟨g, j * 2 + 1, none⟩ = some (.string ⟨old.2.toArray⟩) := by
        rw [hr2.cellAt (j * 2 + 1) (by omega), List.getElem?_set_ne (by omega)]
        have h0 := HF.out
        exact HD.out
      have f2 := hr2.frozenAt (j * 2 + 1)
      have s2 := hr2.stored (j * 2 + 1) (sv (mkb k j))
      have HS2 : Hid _ := Lib.hid s2.1
      have HB2 := Lib.hid (grown_trans (grown_trans HB1.out (grown_of_below hb2)) s2.2)
      clear hb2 hr2 s2
      rw [show mt (k + j * 2 + 1) = mkb k j from rfl]
      unfold sv at HS2 HB2
      have HQ := Lib.hid (fcs_set (mks l k j) j (xa, mkb k j))
      unfold sv at HQ
      simp only at HQ
      rw [HM.out] at HQ
      generalize mkb k j = xb at HS2 HB2 HQ ⊢
      go_wp2
      go_roundw
      case rel => exact ⟨j + 1, by omega, by go_num, by go_num, by rw [← HQ.out]; exact HS2.out, HB2.out⟩
      case measure => simp [intOf]; omega
    · have HE := Lib.hid (mks_all (l := l) (k := k) (show j = l.length by omega))
      have HR := Lib.hid (show k + j * 2 = k + l.length * 2 by omega)
      have HO := Lib.hid (And.intro hown hb)
      clear hown hb
      go_wp2
      go_ret
      exact ⟨ret_nat HR.out, by show World.ownsRow _ _ _ _ _ _ _; rw [mkl_len]; rw [← HE.out]; exact HO.out.1, HO.out.2⟩

def Held (k n : Nat) (w : World) (e : Ending) (w' : World) : Prop := e = .returned (.int .i64 ((k + n * 2 : Nat) : Int)) ∧ Below w.heap.size w w'
theorem below_drew' {B : Nat} {a w : World} (h : Below B a w) : Below B a w.drew := ⟨h.os, h.tape, h.output, h.size, h.block⟩
theorem below_of_drew {B : Nat} {w w' : World} (h : Below B w.drew w') : Below B w w' := ⟨h.os, h.tape, h.output, h.size, h.block⟩
theorem held_nil (a : Option Addr) (cap k : Nat) (w : World) :
    Calls Tryz.prog 50 #[.slice a 0 cap, .int .i64 (k : Int)] w (Held k 0 w) := by
  go_enter Tryz.func50, Tryz.ntmps50
  go_wp2
  go_loop [1, 5] (fun q i => i = .int .i64 0 ∧ q = .int .i64 (k : Int)) (fun _ i => 0)
  case atStart => exact ⟨rfl, rfl⟩
  case round =>
    obtain ⟨rfl, rfl⟩ := hrel
    go_wp2
    go_ret
    exact ⟨rfl, Below.refl _ _⟩

set_option maxHeartbeats 2000000 in
theorem held_some (b off cap k n : Nat) (w : World) (hc : At w b off (mkl k n)) (h0 : 0 < n) (hk : 1 ≤ k) (hn : k + n * 2 ≤ 100000000) :
    Calls Tryz.prog 50 #[.slice (some ⟨b, off, none⟩) n cap, .int .i64 (k : Int)] w (Held k n w) := by
  have hbl := at_lt hc (by rw [mkl_len]; exact h0)
  have HC := Lib.hid hc
  clear hc
  go_enter Tryz.func50, Tryz.ntmps50
  go_wp2
  go_loopw [1, 5] (fun q i wr => ∃ j : Nat, j ≤ n ∧ i = .int .i64 (j : Int) ∧ q = .int .i64 ((k + j * 2 : Nat) : Int) ∧ Below w.heap.size w wr) (fun _ i _ => n - (intOf i).toNat)
  case atStart => exact ⟨0, Nat.zero_le _, rfl, rfl, Below.refl _ _⟩
  case round =>
    obtain ⟨j, hj, rfl, rfl, hb⟩ := hrel
    by_cases hlt : j < n
    · have hcc := at_below HC.out hb hbl j (by rw [mkl_len]; exact hlt)
      rw [mkl_at hlt] at hcc
      obtain ⟨d1, d2⟩ := hcc
      unfold sv at d1 d2
      have hcell' : wr.drew.cell? ⟨b, off + j * 2, none⟩ = some (.string ⟨(mka k j).toArray⟩) := d1
      have hbs := hb.size
      have hbx : b < wr.heap.size := Nat.lt_of_lt_of_le hbl hbs
      have HBX := Lib.hid hbx
      have HB := Lib.hid hb
      have hK : Hid (k + j * 2 + 1 ≤ 100000000) := Lib.hid (by omega)
      have c1 := mark_text (k + j * 2) wr.drew (by omega) (by omega)
      rw [show mt (k + j * 2) = mka k j from rfl] at c1
      have C2 : Hid (∀ wz : World, Calls Tryz.prog 95 #[.int .i64 ((k : Int) + (j : Int) * 2 + 1)] wz fun e w' => e = .returned (.string ⟨(mkb k j).toArray⟩) ∧ Below wz.heap.size wz w') := Lib.hid (fun wz => by
        have c2 := mark_text (k + j * 2 + 1) wz (by omega) (by omega)
        rw [show ((k + j * 2 + 1 : Nat) : Int) = (k : Int) + (j : Int) * 2 + 1 by omega, show mt (k + j * 2 + 1) = mkb k j from rfl] at c2
        exact c2)
      generalize mka k j = z at *
      generalize mkb k j = z2 at *
      have HD2 := Lib.hid d2
      clear hb d2
      go_wp2
      go_region_with (go_at_call 95; refine c1.mono ?_; rintro e w1 ⟨rfl, hb1⟩; have hc1 : w1.cell? ⟨b, off + j * 2, none⟩ = some (.string ⟨z.toArray⟩) := (hb1.cell (p := ⟨b, off + j * 2, none⟩) HBX.out).trans hcell'; have hd1 : w1.cell? ⟨b, off + j * 2 + 1, none⟩ = some (.string ⟨z2.toArray⟩) := (hb1.cell (p := ⟨b, off + j * 2 + 1, none⟩) HBX.out).trans HD2.out; have H1 := Lib.hid (Base.then_below HB.out (below_of_drew hb1)); have hz1 : wr.heap.size ≤ w1.heap.size := hb1.size; clear hb1)
      all_goals go_wp2
      all_goals (
        have c3 := C2.out w1.drew
        have hd2 : w1.drew.cell? ⟨b, off + j * 2 + 1, none⟩ = some (.string ⟨z2.toArray⟩) := hd1
        have hb1x : b < w1.heap.size := Nat.lt_of_lt_of_le HBX.out hz1
        have HBY := Lib.hid hb1x
        clear hc1 hcell' c1 d1
        go_region_with (go_at_call 95; refine c3.mono ?_; rintro e w2 ⟨rfl, hb2⟩; have hc2 : w2.cell? ⟨b, off + j * 2 + 1, none⟩ = some (.string ⟨z2.toArray⟩) := (hb2.cell (p := ⟨b, off + j * 2 + 1, none⟩) HBY.out).trans hd2; have H2 := Lib.hid (Base.then_below H1.out (below_of_drew hb2)); clear hb2))
      all_goals go_wp2
      all_goals go_roundw
      all_goals first | exact ⟨j + 1, by omega, by go_num, by go_num, H2.out⟩ | (simp [intOf]; omega)
    · have HR := Lib.hid (show k + j * 2 = k + n * 2 by omega)
      go_wp2
      go_ret
      exact ⟨ret_nat HR.out, hb⟩

theorem held_flds (B : Nat) (v : Value) (k n : Nat) (w : World) (h : Holds w B v (mkl k n)) (hk : 1 ≤ k) (hn : k + n * 2 ≤ 100000000) :
    Calls Tryz.prog 50 #[v, .int .i64 (k : Int)] w (Held k n w) := by
  rcases h with ⟨e, a, cap, rfl⟩ | ⟨h0, b, off, cap, rfl, _, _, hc⟩
  · have : n = 0 := by have := congrArg List.length e; rw [mkl_len] at this; simpa using this
    subst this
    exact held_nil a cap k w
  · rw [mkl_len] at h0 ⊢
    exact held_some b off cap k n w hc h0 hk hn
end Go.Proofs.YtojmkdggkaocdaaGreatDoor.Flds

/-
  CONTRACTS of the laws' markResponse and heldResponse, told by what they leave alone: every block but the marked list's own. Nothing else that was there before is changed.
-/
namespace Go.Proofs.YtojmkdggkaocdaaGreatDoor.Mark
open Go Go.RowKit
set_option linter.unusedVariables false
set_option maxRecDepth 1000000

theorem mark_rsp (c : Int) (b : List UInt8) (B : Nat) (v : Value) (l : List Flds.Fld) (k : Nat) (w : World) (hown : Flds.Own w B v l) (hB : B ≤ w.heap.size) (hk : 1 ≤ k) (hn : k + l.length * 2 ≤ 100000000) :
    Calls Tryz.prog 13 #[.agg #[.int .i64 c, v, .string ⟨b.toArray⟩], .int .i64 (k : Int)] w (Flds.Marked B v k l.length w) := by
  have hb0 : Below w.heap.size w (w.alloc (.cells #[.int .i64 c, v, .string ⟨b.toArray⟩] 30)) := (Below.refl _ _).alloc (Nat.le_refl _) _
  have HB0 := Lib.hid hb0
  have HM := Lib.hid (Flds.mark_flds B v l k _ (Flds.own_below hown hb0) (by simp; omega) hk hn)
  unfold Flds.Marked at HM ⊢
  clear hown hb0
  go_enter Tryz.func13, Tryz.ntmps13
  go_wp2_with (fail)
  go_at_call 49
  refine HM.out.mono ?_
  rintro e w1 ⟨rfl, ho1, hg⟩
  have HO := Lib.hid ho1
  have HG := Lib.hid (Flds.grown_trans (Flds.grown_of_below (row := v.ownBlock) HB0.out) hg)
  clear ho1 hg
  go_wp2
  go_ret
  exact ⟨rfl, HO.out, HG.out⟩

theorem held_rsp (c : Int) (b : List UInt8) (B : Nat) (v : Value) (k n : Nat) (w : World) (h : Flds.Holds w B v (Flds.mkl k n)) (hB : B ≤ w.heap.size) (hk : 1 ≤ k) (hn : k + n * 2 ≤ 100000000) :
    Calls Tryz.prog 14 #[.agg #[.int .i64 c, v, .string ⟨b.toArray⟩], .int .i64 (k : Int)] w (Flds.Held k n w) := by
  have HB0 := Lib.hid ((Below.refl w.heap.size w).alloc (Nat.le_refl _) (.cells #[.int .i64 c, v, .string ⟨b.toArray⟩] 30))
  have HM := Lib.hid (Flds.held_flds B v k n _ (Flds.holds_below h (HB0.out.mono hB)) hk hn)
  have hneg : ¬ ((k + n * 2 : Nat) : Int) < 0 := by omega
  unfold Flds.Held at HM ⊢
  clear h
  generalize ((k + n * 2 : Nat) : Int) = z at HM hneg ⊢
  go_enter Tryz.func14, Tryz.ntmps14
  go_wp2_with (fail)
  go_at_call 50
  refine HM.out.mono ?_
  rintro e w1 ⟨rfl, hb1⟩
  have HB1 := Lib.hid (HB0.out.trans (hb1.mono HB0.out.size))
  clear hb1
  go_wp2
  go_ret
  exact ⟨rfl, HB1.out⟩
end Go.Proofs.YtojmkdggkaocdaaGreatDoor.Mark
namespace Go.Proofs.YtojmkdggkaocdaaGreatDoor.Msg
open Go Go.RowKit
theorem eq_rsp_wide (c : Int) (u : Value) (l : List F) (b : List UInt8) (v : Value) (B B' : Nat) (w : World) (h : Flds.Holds w B u l) (h' : Flds.Holds w B' v l) (hB : B ≤ w.heap.size) (hB' : B' ≤ w.heap.size) (hl : l.length ≤ 4194304) :
    Calls Tryz.prog 12 #[.agg #[.int .i64 c, u, .string ⟨b.toArray⟩], .agg #[.int .i64 c, v, .string ⟨b.toArray⟩]] w (Rec.Yes w) := by
  have HB0 := Lib.hid (((Below.refl w.heap.size w).alloc (Nat.le_refl _) (.cells #[.int .i64 c, u, .string ⟨b.toArray⟩] 30)).alloc (by simp) (.cells #[.int .i64 c, v, .string ⟨b.toArray⟩] 30))
  have HS := Lib.hid (Flds.eq_wide u v B B' l _ (Flds.holds_below h (HB0.out.mono hB)) (Flds.holds_below h' (HB0.out.mono hB')) hl)
  have HK := Lib.hid (fun w1 => kept33 (w := w) (w1 := w1) (T := 30) (T' := 30) (a := .int .i64 c) (b := u) (c := .string ⟨b.toArray⟩) (a' := .int .i64 c) (b' := v) (c' := .string ⟨b.toArray⟩))
  unfold Flds.Yes at HS
  unfold Rec.Yes
  clear h h'
  go_enter Tryz.func12, Tryz.ntmps12
  go_wp2_with (fail)
  go_at_call 48
  refine HS.out.mono ?_
  rintro e w1 ⟨rfl, hb1⟩
  obtain ⟨⟨q0, q1, q2⟩, ⟨r0, r1, r2⟩, _, _, hbw⟩ := HK.out _ hb1
  have HBW := Lib.hid hbw
  clear hb1 hbw
  go_wp2
  go_ret
  exact ⟨rfl, HBW.out⟩
end Go.Proofs.YtojmkdggkaocdaaGreatDoor.Msg

/-
  FROM A ROW's LISTED VARIABLES to what the contracts ask of the world: the library's table of powers of ten, wherever it stands on the list.
-/
namespace Go.Proofs.YtojmkdggkaocdaaGreatDoor.Laid
open Go
set_option linter.unusedVariables false
set_option maxRecDepth 1000000

theorem of_vars {P : Program} {w : World} : ∀ {l : List (String × DataW Unit)} {ps : List MemPlace}, DataW.LaidVars P w l ps → ∀ n d, (n, d) ∈ l →
    ∃ g t cs fuel p, P.globalNamed n = some g ∧ (P.globals[g]?).map (·.type) = some t ∧ w.var? P n = some cs ∧ DataW.trod (fun _ => ()) P w 0 (fun _ => true) false fuel t cs.toList = some (d, p)
  | [], _, _, _, _, hm => by cases hm
  | (n', d') :: r, ps, h, n, d, hm => by
    obtain ⟨g, t, cs, fuel, p, q, h1, h2, h3, h4, h5, _⟩ := h
    rcases List.mem_cons.1 hm with e | e
    · cases e
      exact ⟨g, t, cs, fuel, p, h1, h2, h3, h4⟩
    · exact of_vars h5 n d e
theorem tens_datum : (Rows.laid_internal_strconv_uint64pow10 : DataW Unit) = Lib.tabData .u64 Lib.pow10Tab := by kernel_rfl
theorem tens {l : List (String × DataW Unit)} {W : World} (h : laidMet Tryz.prog l W) (hm : ("internal/strconv.uint64pow10", Rows.laid_internal_strconv_uint64pow10) ∈ l) : Fmt.Tens W := by
  obtain ⟨ps, hv, _⟩ := h
  obtain ⟨g, t, cs, fuel, p, hg, ht, hvar, hd⟩ := of_vars hv _ _ hm
  obtain rfl := Option.some.inj ((show Tryz.prog.globalNamed "internal/strconv.uint64pow10" = some 4 by kernel_rfl).symm.trans hg)
  obtain rfl := Option.some.inj ((show (Tryz.prog.globals[4]?).map (·.type) = some 250 by kernel_rfl).symm.trans ht)
  rw [tens_datum] at hd
  unfold Fmt.Tens Lib.TabIs
  rw [hvar, ← Lib.cells_of_tab Tryz.underlying250 Tryz.underlying193 (by kernel_rfl) (by kernel_rfl) hd]
end Go.Proofs.YtojmkdggkaocdaaGreatDoor.Laid

/-
  FROM A ROW's LISTED VARIABLES to what the contracts ask of the world: the two errors of the library's number reader, wherever they stand on the list.
-/
namespace Go.Proofs.YtojmkdggkaocdaaGreatDoor.Laid
open Go
set_option linter.unusedVariables false
set_option maxRecDepth 1000000

theorem at_head {P : Program} {w : World} {n : String} {d : DataW Unit} : ∀ {l : List (String × DataW Unit)}, laidMet P l w → (n, d) ∈ l → ∃ r, laidMet P ((n, d) :: r) w
  | [], _, hm => by cases hm
  | x :: r, h, hm => by
    rcases List.mem_cons.1 hm with e | e
    · cases e; exact ⟨r, h⟩
    · exact at_head h.tail e
theorem errs {l : List (String × DataW Unit)} {W : World} (h : laidMet Tryz.prog l W) (h1 : ("strconv.ErrSyntax", Rows.laid_strconv_ErrSyntax) ∈ l) (h2 : ("strconv.ErrRange", Rows.laid_strconv_ErrRange) ∈ l) : Par.Errs W := by
  obtain ⟨r1, k1⟩ := at_head h h1
  obtain ⟨r2, k2⟩ := at_head h h2
  have row : ∀ u, Tryz.prog.typeName? 3 u = some "*errors.errorString" → u = 264 :=
    fun u hu => typeName_ptr_named (nm := "errors.errorString") (by kernel_rfl) (by kernel_rfl) (by decide) u hu
  obtain ⟨a1, s1, v1, _⟩ := laid_sentinel k1 (show Tryz.prog.globalNamed "strconv.ErrSyntax" = some 0 by kernel_rfl) (show (Tryz.prog.globals[0]?).map (·.type) = some 164 by kernel_rfl) Tryz.underlying164 row Tryz.underlying264 Tryz.underlying266 rfl rfl Tryz.underlying9 (by kernel_rfl) (by kernel_rfl)
  obtain ⟨a2, s2, v2, _⟩ := laid_sentinel k2 (show Tryz.prog.globalNamed "strconv.ErrRange" = some 1 by kernel_rfl) (show (Tryz.prog.globals[1]?).map (·.type) = some 164 by kernel_rfl) Tryz.underlying164 row Tryz.underlying264 Tryz.underlying266 rfl rfl Tryz.underlying9 (by kernel_rfl) (by kernel_rfl)
  exact ⟨⟨_, _, v1⟩, ⟨_, _, v2⟩⟩
end Go.Proofs.YtojmkdggkaocdaaGreatDoor.Laid
