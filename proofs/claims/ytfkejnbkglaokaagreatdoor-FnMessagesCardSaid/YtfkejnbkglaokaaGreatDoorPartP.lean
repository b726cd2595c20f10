/-
  CONTRACTS AND PLAIN FACTS, several texts in one; each says in its own words what it proves.
-/
import Derived.Test.YtfkejnbkglaokaaGreatDoorPartO
import Derived.Test.YtfkejnbkglaokaaGreatDoorPartD
import Derived.LoopTactic
import Derived.Outline
set_option linter.unusedSimpArgs false
set_option linter.unusedVariables false

/-
  CONTRACTS of the laws' helpers for a Response: an argument of that type, opened; its size (szResponse), a copy (toResponse), the comparison of two that hold the same (eqResponse). Nothing that was there before is changed.
-/
namespace Go.Proofs.YtfkejnbkglaokaaGreatDoor.Msg
open Go Go.RowKit
set_option linter.unusedVariables false
set_option maxRecDepth 1000000

abbrev F := Flds.Fld
def FOk (l : List F) : Prop := l.length ≤ maxLen ∧ ∀ f ∈ l, f.1.length ≤ maxLen ∧ f.2.length ≤ maxLen
def Ok_rsp (c : Int) (l : List F) (b : List UInt8) : Prop := (-9223372036854775808 ≤ c ∧ c ≤ 9223372036854775807) ∧ FOk l ∧ b.length ≤ maxLen
theorem wf_range {n : Int} (h : (Lit.int .i64 n).wf = true) : -9223372036854775808 ≤ n ∧ n ≤ 9223372036854775807 := by
  simp [Lit.wf, IntKind.min, IntKind.max, IntKind.signed, IntKind.bits] at h; omega
theorem open_text {H : Type} {enc : TypeId × Value → H} {W : World} {fuel : Nat} {v : Value} {x : DataW H × List MemPlace} (h : DataW.trod enc Tryz.prog W 0 (fun _ => true) true fuel 9 [v] = some x) : ∃ n : List UInt8, v = .string ⟨n.toArray⟩ ∧ n.length ≤ maxLen := by
  obtain ⟨s, rfl, hs⟩ := Flds.trod_text h
  exact ⟨s.data.toList, rfl, by rw [Array.length_toList]; exact hs⟩
theorem cell3_one {W : World} {a b c : Value} {T : TypeId} : (W.alloc (.cells #[a, b, c] T)).cell? ⟨W.heap.size, 0, none⟩ = some a ∧ (W.alloc (.cells #[a, b, c] T)).cell? ⟨W.heap.size, 1, none⟩ = some b ∧ (W.alloc (.cells #[a, b, c] T)).cell? ⟨W.heap.size, 2, none⟩ = some c :=
  ⟨by rw [World.cell?_alloc_new]; rfl, by rw [World.cell?_alloc_new]; rfl, by rw [World.cell?_alloc_new]; rfl⟩

/-- Blocks of the call's own, kept by what follows. -/
theorem kept33 {w w1 : World} {T T' : TypeId} {a b c a' b' c' : Value} (hb : Below ((w.alloc (.cells #[a, b, c] T)).alloc (.cells #[a', b', c'] T')).heap.size ((w.alloc (.cells #[a, b, c] T)).alloc (.cells #[a', b', c'] T')) w1) :
    (w1.cell? ⟨w.heap.size, 0, none⟩ = some a ∧ w1.cell? ⟨w.heap.size, 1, none⟩ = some b ∧ w1.cell? ⟨w.heap.size, 2, none⟩ = some c) ∧ (w1.cell? ⟨w.heap.size + 1, 0, none⟩ = some a' ∧ w1.cell? ⟨w.heap.size + 1, 1, none⟩ = some b' ∧ w1.cell? ⟨w.heap.size + 1, 2, none⟩ = some c') ∧ (∀ j, w1.frozen? ⟨w.heap.size, j, none⟩ = false) ∧ (∀ j, w1.frozen? ⟨w.heap.size + 1, j, none⟩ = false) ∧ Below w.heap.size w w1 := by
  have h1 : Below (w.alloc (.cells #[a, b, c] T)).heap.size (w.alloc (.cells #[a, b, c] T)) w1 := ((Below.refl _ _).alloc (Nat.le_refl _) _).trans (hb.mono (by simp))
  refine ⟨⟨?_, ?_, ?_⟩, ⟨?_, ?_, ?_⟩, fun j => ?_, fun j => ?_, ((Below.refl _ _).alloc (Nat.le_refl _) _).trans (h1.mono (by simp))⟩
  · rw [h1.cell (p := ⟨w.heap.size, 0, none⟩) (by simp), World.cell?_alloc_new]; rfl
  · rw [h1.cell (p := ⟨w.heap.size, 1, none⟩) (by simp), World.cell?_alloc_new]; rfl
  · rw [h1.cell (p := ⟨w.heap.size, 2, none⟩) (by simp), World.cell?_alloc_new]; rfl
  · rw [hb.cell (p := ⟨w.heap.size + 1, 0, none⟩) (by simp), World.cell?_alloc_at _ _ _ _ (by simp)]; rfl
  · rw [hb.cell (p := ⟨w.heap.size + 1, 1, none⟩) (by simp), World.cell?_alloc_at _ _ _ _ (by simp)]; rfl
  · rw [hb.cell (p := ⟨w.heap.size + 1, 2, none⟩) (by simp), World.cell?_alloc_at _ _ _ _ (by simp)]; rfl
  · rw [h1.frozen (p := ⟨w.heap.size, j, none⟩) (by simp)]; simp [go_sem]
  · rw [hb.frozen (p := ⟨w.heap.size + 1, j, none⟩) (by simp)]; simp [go_sem]
theorem kept333 {w w1 : World} {T T' T2 : TypeId} {a b c a' b' c' a2 b2 c2 : Value} (hb : Below (((w.alloc (.cells #[a, b, c] T)).alloc (.cells #[a', b', c'] T')).alloc (.cells #[a2, b2, c2] T2)).heap.size (((w.alloc (.cells #[a, b, c] T)).alloc (.cells #[a', b', c'] T')).alloc (.cells #[a2, b2, c2] T2)) w1) :
    (w1.cell? ⟨w.heap.size, 0, none⟩ = some a ∧ w1.cell? ⟨w.heap.size, 1, none⟩ = some b ∧ w1.cell? ⟨w.heap.size, 2, none⟩ = some c) ∧ (w1.cell? ⟨w.heap.size + 1, 0, none⟩ = some a' ∧ w1.cell? ⟨w.heap.size + 1, 1, none⟩ = some b' ∧ w1.cell? ⟨w.heap.size + 1, 2, none⟩ = some c') ∧ (w1.cell? ⟨w.heap.size + 1 + 1, 0, none⟩ = some a2 ∧ w1.cell? ⟨w.heap.size + 1 + 1, 1, none⟩ = some b2 ∧ w1.cell? ⟨w.heap.size + 1 + 1, 2, none⟩ = some c2) ∧ (∀ j, w1.frozen? ⟨w.heap.size + 1, j, none⟩ = false) ∧ (∀ j, w1.frozen? ⟨w.heap.size + 1 + 1, j, none⟩ = false) ∧ Below w.heap.size w w1 := by
  have h1 : Below ((w.alloc (.cells #[a, b, c] T)).alloc (.cells #[a', b', c'] T')).heap.size ((w.alloc (.cells #[a, b, c] T)).alloc (.cells #[a', b', c'] T')) w1 := ((Below.refl _ _).alloc (Nat.le_refl _) _).trans (hb.mono (by simp))
  obtain ⟨k1, k2, k3, k4, k5⟩ := kept33 h1
  refine ⟨k1, k2, ⟨?_, ?_, ?_⟩, k4, fun j => ?_, k5⟩
  · rw [hb.cell (p := ⟨w.heap.size + 1 + 1, 0, none⟩) (by simp), World.cell?_alloc_at _ _ _ _ (by simp)]; rfl
  · rw [hb.cell (p := ⟨w.heap.size + 1 + 1, 1, none⟩) (by simp), World.cell?_alloc_at _ _ _ _ (by simp)]; rfl
  · rw [hb.cell (p := ⟨w.heap.size + 1 + 1, 2, none⟩) (by simp), World.cell?_alloc_at _ _ _ _ (by simp)]; rfl
  · rw [hb.frozen (p := ⟨w.heap.size + 1 + 1, j, none⟩) (by simp)]; simp [go_sem]

def Copied (c : Int) (l : List F) (b : List UInt8) (w : World) (e : Ending) (w' : World) : Prop := ∃ v, e = .returned (.agg #[.int .i64 c, v, .string ⟨b.toArray⟩]) ∧ Flds.Own w' w.heap.size v l ∧ Below w.heap.size w w'
theorem eq_rsp (c : Int) (u : Value) (l : List F) (b : List UInt8) (v : Value) (B B' : Nat) (w : World) (h : Flds.Holds w B u l) (h' : Flds.Holds w B' v l) (hB : B ≤ w.heap.size) (hB' : B' ≤ w.heap.size) (hl : l.length ≤ 1048576) :
    Calls Tryz.prog 13 #[.agg #[.int .i64 c, u, .string ⟨b.toArray⟩], .agg #[.int .i64 c, v, .string ⟨b.toArray⟩]] w (Rec.Yes w) := by
  have HB0 := Lib.hid (((Below.refl w.heap.size w).alloc (Nat.le_refl _) (.cells #[.int .i64 c, u, .string ⟨b.toArray⟩] 31)).alloc (by simp) (.cells #[.int .i64 c, v, .string ⟨b.toArray⟩] 31))
  have HS := Lib.hid (Flds.eq_same u v B B' l _ (Flds.holds_below h (HB0.out.mono hB)) (Flds.holds_below h' (HB0.out.mono hB')) hl)
  have HK := Lib.hid (fun w1 => kept33 (w := w) (w1 := w1) (T := 31) (T' := 31) (a := .int .i64 c) (b := u) (c := .string ⟨b.toArray⟩) (a' := .int .i64 c) (b' := v) (c' := .string ⟨b.toArray⟩))
  unfold Flds.Yes at HS
  unfold Rec.Yes
  clear h h'
  go_enter Tryz.func13, Tryz.ntmps13
  go_wp2_with (fail)
  go_at_call 31
  refine HS.out.mono ?_
  rintro e w1 ⟨rfl, hb1⟩
  obtain ⟨⟨q0, q1, q2⟩, ⟨r0, r1, r2⟩, _, _, hbw⟩ := HK.out _ hb1
  have HBW := Lib.hid hbw
  clear hb1 hbw
  go_wp2
  go_ret
  exact ⟨rfl, HBW.out⟩
end Go.Proofs.YtfkejnbkglaokaaGreatDoor.Msg

/-
  CONTRACTS of SameFields, the model's and the program's (by slices.Equal): whether the two lists of fields are the same; nothing that was there before is changed.
-/
namespace Go.Proofs.YtfkejnbkglaokaaGreatDoor.Flds
open Go Go.RowKit
set_option linter.unusedVariables false
set_option maxRecDepth 1000000

theorem take_more_eq {l l' : List Fld} {k : Nat} (h : l.take k = l'.take k) (h1 : k < l.length) (h2 : k < l'.length) (e : l.getD k nofld = l'.getD k nofld) : l.take (k + 1) = l'.take (k + 1) := by
  have e' : l[k] = l'[k] := by simpa [List.getD, h1, h2] using e
  rw [List.take_succ_eq_append_getElem h1, List.take_succ_eq_append_getElem h2, h, e']
theorem ne_of_getD {l l' : List Fld} {k : Nat} (e : l.getD k nofld ≠ l'.getD k nofld) : l ≠ l' := fun h => e (by rw [h])
theorem ret_yes {l l' : List Fld} (h : l = l') : Ending.returned (.bool true) = .returned (.bool (decide (l = l'))) := by rw [decide_eq_true h]
theorem ret_no {l l' : List Fld} (h : l ≠ l') : Ending.returned (.bool false) = .returned (.bool (decide (l = l'))) := by rw [decide_eq_false h]

def SameEnd (l l' : List Fld) (w : World) (e : Ending) (w' : World) : Prop := e = .returned (.bool (decide (l = l'))) ∧ Below w.heap.size w w'

/-! The program's: slices.Equal at fields. -/
theorem eqq_nil (a a' : Option Addr) (cap cap' : Nat) (w : World) :
    Calls Tryz.prog 48 #[.slice a 0 cap, .slice a' 0 cap'] w (SameEnd [] [] w) := by
  go_enter Tryz.func48, Tryz.ntmps48
  go_wp2
  go_loop [13] (fun i => i = .int .i64 0) (fun i => 0)
  case atStart => rfl
  case round =>
    obtain rfl := hrel
    go_wp2
    go_ret
    exact ⟨rfl, Below.refl _ _⟩

theorem eqq_len (a a' : Option Addr) (cap cap' n m : Nat) (l l' : List Fld) (w : World) (hn : n = l.length) (hm : m = l'.length) (hne : n ≠ m) (h1 : n ≤ 1048576) (h2 : m ≤ 1048576) :
    Calls Tryz.prog 48 #[.slice a n cap, .slice a' m cap'] w (SameEnd l l' w) := by
  have HN := Lib.hid (show l ≠ l' from fun h => hne (by rw [hn, hm, h]))
  have hni : ¬ (n : Int) = (m : Int) := by omega
  clear hn hm
  go_enter Tryz.func48, Tryz.ntmps48
  go_wp2
  go_ret
  exact ⟨ret_no HN.out, Below.refl _ _⟩

set_option maxHeartbeats 2000000 in
theorem eqq_some (b off cap b' off' cap' : Nat) (l l' : List Fld) (n : Nat) (w : World) (hc : At w b off l) (hc' : At w b' off' l') (h0 : 0 < n) (hl : n ≤ 1048576) (hn : l.length = n) (hn' : l'.length = n) :
    Calls Tryz.prog 48 #[.slice (some ⟨b, off, none⟩) n cap, .slice (some ⟨b', off', none⟩) n cap'] w (SameEnd l l' w) := by
  have hbl := at_lt hc (by omega)
  have hbl' := at_lt hc' (by omega)
  have HC := Lib.hid hc
  have HC' := Lib.hid hc'
  have HN := Lib.hid (And.intro hn hn')
  clear hc hc' hn hn'
  go_enter Tryz.func48, Tryz.ntmps48
  go_wp2
  go_loopw [13] (fun i wr => ∃ k : Nat, k ≤ n ∧ i = .int .i64 k ∧ Hid (l.take k = l'.take k) ∧ Below w.heap.size w wr) (fun i _ => n - (intOf i).toNat)
  case atStart => exact ⟨0, Nat.zero_le _, rfl, rfl, Below.refl _ _⟩
  case round =>
    obtain ⟨k, hk, rfl, he, hb⟩ := hrel
    by_cases hlt : k < n
    · obtain ⟨c1, c2⟩ := at_below HC.out hb hbl k (by have := HN.out.1; omega)
      obtain ⟨c1', c2'⟩ := at_below HC'.out hb hbl' k (by have := HN.out.2; omega)
      have HT : Hid (l.getD k nofld = l'.getD k nofld → l.take (k + 1) = l'.take (k + 1)) := Lib.hid (fun e => take_more_eq he.out (by have := HN.out.1; omega) (by have := HN.out.2; omega) e)
      have HF : Hid (l.getD k nofld ≠ l'.getD k nofld → l ≠ l') := Lib.hid (fun e => ne_of_getD e)
      have HB := Lib.hid (below_drew hb)
      clear hb he
      generalize l.getD k nofld = f at c1 c2 HT HF
      generalize l'.getD k nofld = f' at c1' c2' HT HF
      obtain ⟨x, y⟩ := f
      obtain ⟨x', y'⟩ := f'
      unfold sv at c1 c2 c1' c2'
      by_cases e1 : x = x'
      · subst e1
        by_cases e2 : y = y'
        · subst e2
          have HT' := Lib.hid (HT.out rfl)
          clear HT HF
          go_wp2
          all_goals go_region
          all_goals go_wp2
          all_goals go_roundw
          case rel => exact ⟨k + 1, by omega, by go_num, HT'.out, HB.out⟩
          case measure => simp [intOf]; omega
        · have HF' := Lib.hid (HF.out (fun h => e2 (Prod.mk.inj h).2))
          clear HT HF
          go_wp2
          all_goals go_region
          all_goals go_wp2
          all_goals go_ret
          all_goals exact ⟨ret_no HF'.out, HB.out⟩
      · have HF' := Lib.hid (HF.out (fun h => e1 (Prod.mk.inj h).1))
        clear HT HF
        go_wp2
        all_goals go_region
        all_goals go_wp2
        all_goals go_ret
        all_goals exact ⟨ret_no HF'.out, HB.out⟩
    · have HE : Hid (l = l') := Lib.hid (by have h := he.out; have := HN.out; rwa [List.take_of_length_le (by omega), List.take_of_length_le (by omega)] at h)
      have HB := Lib.hid hb
      clear hb he
      go_wp2
      go_ret
      exact ⟨ret_yes HE.out, HB.out⟩

theorem eqq (v v' : Value) (B B' : Nat) (l l' : List Fld) (w : World) (h : Holds w B v l) (h' : Holds w B' v' l') (h1 : l.length ≤ 1048576) (h2 : l'.length ≤ 1048576) :
    Calls Tryz.prog 48 #[v, v'] w (SameEnd l l' w) := by
  rcases h with ⟨rfl, a, cap, rfl⟩ | ⟨h0, b, off, cap, rfl, _, _, hc⟩
  · rcases h' with ⟨rfl, a', cap', rfl⟩ | ⟨h0, b', off', cap', rfl, _, _, hc'⟩
    · exact eqq_nil a a' cap cap' w
    · exact eqq_len _ _ _ _ _ _ _ _ w rfl rfl (by simp; omega) (by simp) h2
  · rcases h' with ⟨rfl, a', cap', rfl⟩ | ⟨h0', b', off', cap', rfl, _, _, hc'⟩
    · exact eqq_len _ _ _ _ _ _ _ _ w rfl rfl (by show l.length ≠ 0; omega) h1 (by simp)
    · by_cases e : l.length = l'.length
      · rw [← e]; exact eqq_some b off cap b' off' cap' l l' _ w hc hc' h0 h1 rfl e.symm
      · exact eqq_len _ _ _ _ _ _ _ _ w rfl rfl e h1 h2

theorem impl_same (v v' : Value) (B B' : Nat) (l l' : List Fld) (w : World) (h : Holds w B v l) (h' : Holds w B' v' l') (h1 : l.length ≤ 1048576) (h2 : l'.length ≤ 1048576) :
    Calls Tryz.prog 23 #[v, v'] w (SameEnd l l' w) := by
  have HQ := Lib.hid (eqq v v' B B' l l' w h h' h1 h2)
  clear h h'
  go_enter Tryz.func23, Tryz.ntmps23
  go_wp2_with (go_at_call 48; refine HQ.out.mono ?_; rintro e w1 ⟨rfl, hb⟩)
  go_ret
  exact ⟨rfl, hb⟩
end Go.Proofs.YtfkejnbkglaokaaGreatDoor.Flds

/-
  CONTRACTS of SameResponse, the model's and the program's; nothing that was there before is changed.
-/
namespace Go.Proofs.YtfkejnbkglaokaaGreatDoor.Msg
open Go Go.RowKit
set_option linter.unusedVariables false
set_option maxRecDepth 1000000

def BoolSm (b : Bool) (w : World) (e : Ending) (w' : World) : Prop := e = .returned (.bool b) ∧ Below w.heap.size w w'
theorem ret_sm {a b : Bool} (h : a = b) : Ending.returned (.bool a) = .returned (.bool b) := by rw [h]
theorem flds_drew {w : World} {B : Nat} {v : Value} {l : List Flds.Fld} (h : Flds.Holds w B v l) : Flds.Holds w.drew B v l := h
theorem flds_top {w : World} {B : Nat} {v : Value} {l : List Flds.Fld} (h : Flds.Holds w B v l) : Flds.Holds w w.heap.size v l := by
  rcases h with h | ⟨h0, b, off, cap, rfl, hB, hc, h1⟩
  · exact Or.inl h
  · exact Or.inr ⟨h0, b, off, cap, rfl, Flds.at_lt h1 h0, hc, h1⟩
def rspSame (c1 : Int) (l1 : List Flds.Fld) (b1 : List UInt8) (c2 : Int) (l2 : List Flds.Fld) (b2 : List UInt8) : Bool := decide (c1 = c2) && (decide (l1 = l2) && decide (b1 = b2))

set_option maxHeartbeats 4000000 in
theorem impl_same_rsp (c1 : Int) (v1 : Value) (l1 : List Flds.Fld) (b1 : List UInt8) (c2 : Int) (v2 : Value) (l2 : List Flds.Fld) (b2 : List UInt8) (B1 B2 : Nat) (w : World) (h1 : Flds.Holds w B1 v1 l1) (h2 : Flds.Holds w B2 v2 l2) (hB1 : B1 ≤ w.heap.size) (hB2 : B2 ≤ w.heap.size) (hl1 : l1.length ≤ 1048576) (hl2 : l2.length ≤ 1048576) :
    Calls Tryz.prog 24 #[.agg #[.int .i64 c1, v1, .string ⟨b1.toArray⟩], .agg #[.int .i64 c2, v2, .string ⟨b2.toArray⟩]] w (BoolSm (rspSame c1 l1 b1 c2 l2 b2) w) := by
  have hb0 : Below w.heap.size w ((w.alloc (.cells #[.int .i64 c1, v1, .string ⟨b1.toArray⟩] 31)).alloc (.cells #[.int .i64 c2, v2, .string ⟨b2.toArray⟩] 31)) := ((Below.refl _ _).alloc (Nat.le_refl _) _).alloc (by simp) _
  have HB0 := Lib.hid hb0
  have HS := Lib.hid (Flds.impl_same v1 v2 B1 B2 l1 l2 _ (Flds.holds_below h1 (hb0.mono hB1)) (Flds.holds_below h2 (hb0.mono hB2)) hl1 hl2)
  have HK := Lib.hid (fun w1 => kept33 (w := w) (w1 := w1) (T := 31) (T' := 31) (a := .int .i64 c1) (b := v1) (c := .string ⟨b1.toArray⟩) (a' := .int .i64 c2) (b' := v2) (c' := .string ⟨b2.toArray⟩))
  unfold Flds.SameEnd at HS
  unfold BoolSm
  clear h1 h2 hb0
  by_cases hc : c1 = c2
  case neg =>
    have HE : Hid (rspSame c1 l1 b1 c2 l2 b2 = false) := Lib.hid (by unfold rspSame; rw [decide_eq_false hc, Bool.false_and])
    have hd : (c1 == c2) = false := by rw [beq_eq_false_iff_ne]; exact hc
    clear HS HK hc
    go_enter Tryz.func24, Tryz.ntmps24
    go_wp2
    go_ret
    exact ⟨ret_sm HE.out.symm, HB0.out⟩
  subst hc
  by_cases hl : l1 = l2
  case neg =>
    have HE : Hid (rspSame c1 l1 b1 c1 l2 b2 = false) := Lib.hid (by unfold rspSame; rw [decide_eq_false hl, Bool.false_and, Bool.and_false])
    rw [decide_eq_false hl] at HS
    clear hl
    go_enter Tryz.func24, Tryz.ntmps24
    go_wp2_with (fail)
    go_at_call 23
    refine HS.out.mono ?_
    rintro e w1 ⟨rfl, hb1⟩
    obtain ⟨⟨p0, p1, p2⟩, ⟨q0, q1, q2⟩, _, _, hbw⟩ := HK.out _ hb1
    have HBW := Lib.hid hbw
    clear hb1 hbw
    go_wp2
    go_ret
    exact ⟨ret_sm HE.out.symm, HBW.out⟩
  rw [decide_eq_true hl] at HS
  by_cases hb : b1 = b2
  · have HE : Hid (rspSame c1 l1 b1 c1 l2 b2 = true) := Lib.hid (by unfold rspSame; rw [decide_eq_true hl, decide_eq_true hb]; simp)
    subst hb
    clear hl
    go_enter Tryz.func24, Tryz.ntmps24
    go_wp2_with (fail)
    go_at_call 23
    refine HS.out.mono ?_
    rintro e w1 ⟨rfl, hb1⟩
    obtain ⟨⟨p0, p1, p2⟩, ⟨q0, q1, q2⟩, _, _, hbw⟩ := HK.out _ hb1
    have HBW := Lib.hid hbw
    clear hb1 hbw
    go_wp2
    go_ret
    exact ⟨ret_sm HE.out.symm, HBW.out⟩
  · have HE : Hid (rspSame c1 l1 b1 c1 l2 b2 = false) := Lib.hid (by unfold rspSame; rw [decide_eq_false hb, Bool.and_false, Bool.and_false])
    have hqb : (b1 == b2) = false := by simpa using hb
    clear hl hb
    go_enter Tryz.func24, Tryz.ntmps24
    go_wp2_with (fail)
    go_at_call 23
    refine HS.out.mono ?_
    rintro e w1 ⟨rfl, hb1⟩
    obtain ⟨⟨p0, p1, p2⟩, ⟨q0, q1, q2⟩, _, _, hbw⟩ := HK.out _ hb1
    have HBW := Lib.hid hbw
    clear hb1 hbw
    go_wp2
    go_ret
    exact ⟨ret_sm HE.out.symm, HBW.out⟩
end Go.Proofs.YtfkejnbkglaokaaGreatDoor.Msg
