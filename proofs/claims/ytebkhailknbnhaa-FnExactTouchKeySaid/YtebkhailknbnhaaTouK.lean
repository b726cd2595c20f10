/-
  PLAIN FACTS on a sketch that is being touched: its block, its counts in a block of their own; what a touch makes of them. And the CONTRACT of the program's halve.
-/
import Derived.Test.YtebkhailknbnhaaTouC
import Derived.Test.YtebkhailknbnhaaSkEst
import Derived.StillTailTactics
namespace Go.Proofs.Ytebkhailknbnhaa.Sk
open Go Go.RowKit
set_option linter.unusedVariables false
set_option maxRecDepth 1000000
set_option maxRecDepth 1000000

def bump (l : List Int) (i : Nat) : List Int := l.set i (l.getD i 0 + 1)
/-- The counts behind the first k touches. -/
def tk (s : List UInt8) (l : List Int) : Nat → List Int
  | 0 => l
  | k + 1 => bump (tk s l k) (ix k s).toNat
def halfs (l : List Int) : List Int := l.map (fun x => x.tdiv 2)
def touched (zs : List Int) (n : Int) (s : List UInt8) : List Int × Int :=
  if skOk zs n = true then (if n + 1 = 64 then (halfs (tk s (full zs) 4), 32) else (tk s (full zs) 4, n + 1)) else (zs, n)
theorem bump_len (l : List Int) (i : Nat) : (bump l i).length = l.length := by unfold bump; simp
theorem tk_len (s : List UInt8) (l : List Int) : ∀ k, (tk s l k).length = l.length
  | 0 => rfl
  | k + 1 => by show (bump _ _).length = _; rw [bump_len]; exact tk_len s l k
def In (a b : Int) (l : List Int) : Prop := ∀ x ∈ l, a ≤ x ∧ x ≤ b
theorem in_get {a b : Int} {l : List Int} (h : In a b l) {i : Nat} (hi : i < l.length) : a ≤ l.getD i 0 ∧ l.getD i 0 ≤ b := by
  rw [show l.getD i 0 = l[i] by simp [List.getD, hi]]; exact h _ (List.getElem_mem _)
theorem bump_in {b : Int} {l : List Int} (h : In 0 b l) (i : Nat) (hi : i < l.length) : In 0 (b + 1) (bump l i) := fun x hx => by
  rcases List.mem_or_eq_of_mem_set hx with hx | hx
  · have := h x hx; omega
  · have := in_get h hi; omega
theorem ok_in {zs : List Int} {n : Int} (h : skOk zs n = true) : In 0 64 zs ∧ (zs.length = 0 ∨ zs.length = 64) ∧ 0 ≤ n ∧ n ≤ 63 := by
  unfold skOk at h
  simp only [Bool.and_eq_true, Bool.or_eq_true, decide_eq_true_eq, List.all_eq_true] at h
  refine ⟨fun x hx => ?_, h.2.1, h.2.2⟩
  have := h.1 x hx
  unfold inTurn at this
  simpa using this
theorem full_in {zs : List Int} {n : Int} (h : skOk zs n = true) : In 0 64 (full zs) ∧ (full zs).length = 64 := by
  obtain ⟨h1, h2, _⟩ := ok_in h
  unfold full
  by_cases h0 : zs.length = 0
  · rw [if_pos h0]
    refine ⟨fun x hx => ?_, by simp⟩
    have := List.eq_of_mem_replicate hx
    omega
  · rw [if_neg h0]; exact ⟨h1, by omega⟩
theorem ix_in (k : Nat) (hk : k < 4) (s : List UInt8) : (ix k s).toNat < 64 := by have := ix_bd k s; omega
theorem tk_in {s : List UInt8} {l : List Int} (h : In 0 64 l) (hl : l.length = 64) : ∀ k : Nat, k ≤ 4 → In 0 (64 + (k : Int)) (tk s l k)
  | 0, _ => by simpa [tk] using h
  | k + 1, hk => by
    have := bump_in (tk_in (s := s) h hl k (by omega)) (ix k s).toNat (by rw [tk_len, hl]; exact ix_in k (by omega) s)
    show In 0 (64 + ((k + 1 : Nat) : Int)) (bump _ _)
    have e : (64 : Int) + ((k + 1 : Nat) : Int) = 64 + (k : Int) + 1 := by omega
    rw [e]; exact this
/-- The first k counts halved. -/
def hpart (l : List Int) (k : Nat) : List Int := halfs (l.take k) ++ l.drop k
theorem hpart_zero (l : List Int) : hpart l 0 = l := by simp [hpart, halfs]
theorem hpart_all {l : List Int} {k : Nat} (h : l.length ≤ k) : hpart l k = halfs l := by
  unfold hpart; rw [List.take_of_length_le h, List.drop_eq_nil_of_le h, List.append_nil]
theorem hpart_len (l : List Int) {k : Nat} (h : k ≤ l.length) : (hpart l k).length = l.length := by
  unfold hpart halfs; simp; omega
theorem hpart_get {l : List Int} {k : Nat} (h : k < l.length) : (hpart l k).getD k 0 = l.getD k 0 := by
  unfold hpart halfs
  have hl : (l.take k).length = k := by rw [List.length_take]; omega
  simp only [List.getD]
  rw [List.getElem?_append_right (by simp; omega)]
  simp [hl, List.getElem?_drop]
  congr 2
  omega
theorem hpart_more {l : List Int} {k : Nat} (h : k < l.length) : (hpart l k).set k ((l.getD k 0).tdiv 2) = hpart l (k + 1) := by
  unfold hpart halfs
  have hl : ((l.take k).map (fun x : Int => x.tdiv 2)).length = k := by rw [List.length_map, List.length_take]; omega
  rw [List.set_append_right _ _ (by omega), hl, Nat.sub_self, List.take_succ_eq_append_getElem h, List.map_append, List.append_assoc]
  congr 1
  rw [show l.getD k 0 = l[k] by simp [List.getD, h], List.drop_eq_getElem_cons h]
  rfl

/-- A sketch in block g, its 64 counts in block b. -/
def St (B g b cp : Nat) (n : Int) (zs : List Int) (w : World) : Prop := Kept.Box w g [.slice (some ⟨b, 0, none⟩) 64 cp, .int .i64 n] ∧ w.ownsRow B 3 1 (.slice (some ⟨b, 0, none⟩) 64 cp) 64 (zs.map (Value.int .i64)) ∧ b ≠ g ∧ zs.length = 64
theorem st_below {B g b cp : Nat} {n : Int} {zs : List Int} {w w' : World} (h : St B g b cp n zs w) (hb : Below w.heap.size w w') : St B g b cp n zs w' := ⟨h.1.below hb, Rec.row_below h.2.1 hb, h.2.2⟩
theorem st_drew {B g b cp : Nat} {n : Int} {zs : List Int} {w : World} (h : St B g b cp n zs w) : St B g b cp n zs w.drew := st_below h (Rec.below_drew (Below.refl _ _))
theorem st_cell {B g b cp : Nat} {n : Int} {zs : List Int} {w : World} (h : St B g b cp n zs w) {k : Nat} (hk : k < 64) : w.cell? ⟨b, k, none⟩ = some (.int .i64 (zs.getD k 0)) ∧ w.frozen? ⟨b, k, none⟩ = false :=
  ⟨Nums.own_cell h.2.1 hk, h.2.1.frozenAt k⟩
theorem st_count {B g b cp : Nat} {n : Int} {zs : List Int} {w : World} (h : St B g b cp n zs w) {k : Nat} (hk : k < 64) (x : Int) : St B g b cp n (zs.set k x) (w.setCell ⟨b, k, none⟩ (.int .i64 x)) :=
  ⟨h.1.other h.2.2.1 _, by have := (h.2.1.stored k (.int .i64 x)).1; rw [← List.map_set] at this; exact this, h.2.2.1, by rw [List.length_set]; exact h.2.2.2⟩
theorem st_total {B g b cp : Nat} {n : Int} {zs : List Int} {w : World} (h : St B g b cp n zs w) (m : Int) : St B g b cp m zs (w.setCell ⟨g, 1, none⟩ (.int .i64 m)) :=
  ⟨h.1.same (k := 1) (by simp) _, ownsRow_setCell_other (a := ⟨g, 1, none⟩) h.2.1 (fun e => h.2.2.1 (Option.some.inj e)) _, h.2.2⟩
theorem st_lt {B g b cp : Nat} {n : Int} {zs : List Int} {w : World} (h : St B g b cp n zs w) : B ≤ b := (h.2.1.lt b rfl).1

set_option maxHeartbeats 4000000 in
theorem impl_halve (B g b cp : Nat) (n : Int) (zs : List Int) (w : World) (h : St B g b cp n zs w) (hn : 0 ≤ n ∧ n ≤ 1000) (hz : In 0 1000 zs) (a : World) (hb : Below a.heap.size a w) (hg : a.heap.size ≤ g) (hB : a.heap.size ≤ B) :
    Calls Try.prog 40 #[.pointer (some ⟨g, 0, none⟩)] w fun e w' => e = .returned (.tuple #[]) ∧ St B g b cp (n.tdiv 2) (halfs zs) w' ∧ Below a.heap.size a w' := by
  have g0 := h.1.cell 0 _ rfl
  have g1 := h.1.cell 1 _ rfl
  have f1 := h.1.frz 1
  have hz64 : zs.length = 64 := h.2.2.2
  have HZ := Lib.hid hz
  have hq0 : 0 ≤ n.tdiv 2 ∧ n.tdiv 2 ≤ 1000 := by rw [Int.tdiv_eq_ediv_of_nonneg hn.1]; omega
  have hs1 := st_total h (n.tdiv 2)
  have HS1 : Hid (St B g b cp (n.tdiv 2) (hpart zs 0) (w.setCell ⟨g, 1, none⟩ (.int .i64 (n.tdiv 2)))) := Lib.hid (by rw [hpart_zero]; exact hs1)
  have HB1 : Hid (Below a.heap.size a (w.setCell ⟨g, 1, none⟩ (.int .i64 (n.tdiv 2)))) := Lib.hid (hb.setCell (p := ⟨g, 1, none⟩) hg _)
  have c0 := hs1.1.cell 0 _ rfl
  have HLT : Hid (a.heap.size ≤ b) := Lib.hid (Nat.le_trans hB (st_lt h))
  have HZL := Lib.hid hz64
  have HALL : Hid (hpart zs 64 = halfs zs) := Lib.hid (hpart_all (by omega))
  obtain ⟨q, hq⟩ : ∃ q, q = n.tdiv 2 := ⟨_, rfl⟩
  have hw : IntKind.i64.wrap (n.tdiv 2) = n.tdiv 2 := IntWalk.i64_in _ (by omega)
  clear h hs1 hz hb
  go_enter Try.func40, Try.ntmps40
  go_wp2
  go_loopw [2, 15] (fun _ i wr => ∃ k : Nat, k ≤ 64 ∧ i = .int .i64 (k : Int) ∧ Hid (St B g b cp (n.tdiv 2) (hpart zs k) wr) ∧ Hid (Below a.heap.size a wr)) (fun _ i _ => 64 - (intOf i).toNat)
  case atStart => exact ⟨0, by omega, rfl, HS1, HB1⟩
  case round =>
    clear HS1 HB1 c0
    obtain ⟨k, hk, rfl, HS, HB⟩ := hrel
    have c0 := HS.out.1.cell 0 _ rfl
    by_cases hlt : k < 64
    · have hki : (k : Int) < 64 := by omega
      obtain ⟨y0, y1⟩ := st_cell HS.out hlt
      have hsz := HZL.out
      have hyb := in_get HZ.out (i := k) (by omega)
      rw [hpart_get (by omega)] at y0
      have HN := Lib.hid (st_count HS.out hlt ((zs.getD k 0).tdiv 2))
      rw [hpart_more (by omega)] at HN
      have HBN : Hid (Below a.heap.size a (wr.setCell ⟨b, k, none⟩ (.int .i64 ((zs.getD k 0).tdiv 2)))) := Lib.hid (HB.out.setCell (p := ⟨b, k, none⟩) HLT.out _)
      generalize zs.getD k 0 = y at y0 hyb HN HBN
      have hyq : 0 ≤ y.tdiv 2 ∧ y.tdiv 2 ≤ 1000 := by rw [Int.tdiv_eq_ediv_of_nonneg hyb.1]; omega
      have hyw : IntKind.i64.wrap (y.tdiv 2) = y.tdiv 2 := IntWalk.i64_in _ (by omega)
      go_wp2
      go_roundw
      case rel => exact ⟨k + 1, by omega, by go_num, HN, HBN⟩
      case measure => simp [intOf]; omega
    · obtain rfl : k = 64 := by omega
      rw [HALL.out] at HS
      go_wp2
      exact bodyPost_end (results_none (by kernel_rfl) _ _ _) rfl ⟨rfl, HS.out, HB.out⟩
end Go.Proofs.Ytebkhailknbnhaa.Sk
