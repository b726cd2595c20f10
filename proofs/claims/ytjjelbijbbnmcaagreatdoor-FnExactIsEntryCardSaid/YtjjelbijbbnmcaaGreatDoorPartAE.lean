/-
  CONTRACTS AND PLAIN FACTS, several texts in one; each says in its own words what it proves.
-/
import Derived.Test.YtjjelbijbbnmcaaGreatDoorPartAD
import Derived.RowKit
import Derived.Test.YtjjelbijbbnmcaaGreatDoorPartAB
import Derived.LoopTactic
import Derived.Outline
import Derived.RegionTactic
import Derived.Deep.RegionWith
import Derived.Deep.QuietTactic
import Derived.BigQuiet
import Derived.IntWalk

/-
  PLAIN FACTS on lists of spans, step by step: whether they are a set, what is missing of one, what they cover, their size.
-/
namespace Go.Proofs.YtjjelbijbbnmcaaGreatDoor.Spn
open Go Go.RowKit
set_option linter.unusedVariables false
set_option maxRecDepth 1000000

def nos : S := (0, 0)
theorem getD_at {l : List S} {k : Nat} (h : k < l.length) : l.getD k nos = l[k] := by simp [List.getD, h]
theorem chain_prefix {lo : Int} {a b : List S} (h : chain lo (a ++ b) = true) : chain lo a = true := by
  induction a generalizing lo with
  | nil => rfl
  | cons s r ih => rw [List.cons_append, chain_cons] at h; rw [chain_cons]; exact ⟨h.1, h.2.1, ih h.2.2⟩
theorem set_take {l : List S} (h : isSet l = true) (k : Nat) : isSet (l.take k) = true := by
  unfold isSet at *
  rw [← List.take_append_drop k l] at h; exact chain_prefix h
theorem set_zero (l : List S) : isSet (l.take 0) = true := rfl
theorem set_step {l : List S} {k : Nat} (h : k < l.length) (hp : isSet (l.take k) = true) (hc : can (l.getD k nos) = true) (hg : k = 0 ∨ (l.getD (k - 1) nos).2 < (l.getD k nos).1) : isSet (l.take (k + 1)) = true := by
  rw [getD_at h] at hc hg
  have h3 := can_iff.1 hc
  rw [List.take_succ_eq_append_getElem h]
  unfold isSet at *
  rw [chain_snoc]
  refine ⟨hp, hc, by omega, fun s hs => ?_⟩
  rcases hg with rfl | hg
  · simp at hs
  · rcases Nat.eq_zero_or_pos k with rfl | hk
    · simp at hs
    · rw [getD_at (by omega)] at hg
      obtain ⟨m, rfl⟩ : ∃ m, k = m + 1 := ⟨k - 1, by omega⟩
      rw [List.take_succ_eq_append_getElem (by omega), chain_snoc] at hp
      rw [List.take_succ_eq_append_getElem (by omega)] at hs
      simp only [Nat.add_sub_cancel] at hg
      rcases List.mem_append.1 hs with hs | hs
      · have := hp.2.2.2 s hs; have := can_iff.1 hp.2.1; omega
      · simp at hs; subst hs; exact hg
theorem set_bad {l : List S} {k : Nat} (h : k < l.length) (hb : can (l.getD k nos) = false ∨ (0 < k ∧ (l.getD k nos).1 ≤ (l.getD (k - 1) nos).2)) : isSet l = false := by
  rw [Bool.eq_false_iff]
  intro hs
  have h1 := set_take hs (k + 1)
  rw [getD_at h] at hb
  rw [List.take_succ_eq_append_getElem h] at h1
  unfold isSet at h1
  rw [chain_snoc] at h1
  rcases hb with hb | ⟨h0, hb⟩
  · rw [h1.2.1] at hb; cases hb
  · rw [getD_at (by omega)] at hb
    have hm : l[k - 1] ∈ l.take k := by
      rw [List.mem_take_iff_getElem]; exact ⟨k - 1, by omega, rfl⟩
    have := h1.2.2.2 _ hm; omega
theorem set_all {l : List S} {k : Nat} (h : ¬ k < l.length) (hp : isSet (l.take k) = true) : isSet l = true := by
  rw [List.take_of_length_le (by omega)] at hp; exact hp
theorem can_bad {x : S} (h : x.1 < 0 ∨ x.2 ≤ x.1 ∨ 1000000000000 < x.2) : can x = false := by unfold can; simp; omega

/-! What is missing. -/
def addm (m : List S) (x : S) : List S := if x.1 < x.2 then m ++ [x] else m
def mst (to : Int) (p : List S × Int) (s : S) : List S × Int := (addm p.1 (p.2, min s.1 to), max p.2 s.2)
def missf (l : List S) (x : S) : List S × Int := l.foldl (mst x.2) ([], x.1)
def keepset (l : List S) : List S := if isSet l then l else []
def miss (l : List S) (x : S) : List S := addm (missf (keepset l) x).1 ((missf (keepset l) x).2, x.2)
theorem missf_more {l : List S} {x : S} {k : Nat} (h : k < l.length) : missf (l.take (k + 1)) x = mst x.2 (missf (l.take k) x) (l.getD k nos) := by
  unfold missf; rw [List.take_succ_eq_append_getElem h, List.foldl_append, getD_at h]; rfl
theorem addm_yes {m : List S} {x : S} (h : x.1 < x.2) : addm m x = m ++ [x] := by unfold addm; rw [if_pos h]
theorem addm_no {m : List S} {x : S} (h : ¬ x.1 < x.2) : addm m x = m := by unfold addm; rw [if_neg h]
theorem addm_len (m : List S) (x : S) : (addm m x).length ≤ m.length + 1 := by unfold addm; split <;> simp
theorem missf_len (l : List S) (x : S) : (missf l x).1.length ≤ l.length := by
  have key : ∀ (l : List S) (p : List S × Int), (l.foldl (mst x.2) p).1.length ≤ p.1.length + l.length := by
    intro l
    induction l with
    | nil => intro p; simp
    | cons s r ih =>
      intro p
      have h1 := ih (mst x.2 p s)
      have h2 : (mst x.2 p s).1.length ≤ p.1.length + 1 := addm_len _ _
      show (r.foldl (mst x.2) (mst x.2 p s)).1.length ≤ _
      simp only [List.length_cons]; omega
  have := key l ([], x.1)
  simp only [List.length_nil, Nat.zero_add] at this
  exact this
theorem keepset_len (l : List S) : (keepset l).length ≤ l.length := by unfold keepset; split <;> simp
theorem miss_len (l : List S) (x : S) : (miss l x).length ≤ l.length + 1 := by
  unfold miss
  have h1 := missf_len (keepset l) x
  have h2 := keepset_len l
  have h3 := addm_len (missf (keepset l) x).1 ((missf (keepset l) x).2, x.2)
  omega
/-- Numbers within a word's range. -/
def inw (n : Int) : Prop := -9223372036854775808 ≤ n ∧ n ≤ 9223372036854775807
theorem missf_inw (l : List S) (x : S) (hx : inw x.1) (hl : ∀ s ∈ l, inw s.2) : inw (missf l x).2 := by
  have key : ∀ (l : List S) (p : List S × Int), inw p.2 → (∀ s ∈ l, inw s.2) → inw (l.foldl (mst x.2) p).2 := by
    intro l
    induction l with
    | nil => intro p hp _; exact hp
    | cons s r ih =>
      intro p hp hs
      have h1 : inw (mst x.2 p s).2 := by
        have := hs s (by simp); unfold inw mst at *; simp only; omega
      exact ih _ h1 (fun t ht => hs t (by simp [ht]))
  exact key l ([], x.1) hx hl

/-! What is covered. -/
def holdsx (x s : S) : Bool := decide (s.1 ≤ x.1 ∧ x.2 ≤ s.2)
def covers (l : List S) (x : S) : Bool := l.any (holdsx x) || decide (x.2 ≤ x.1)
theorem cov_hit {l : List S} {x : S} {k : Nat} (h : k < l.length) (hh : holdsx x (l.getD k nos) = true) : l.any (holdsx x) = true := by
  rw [List.any_eq_true]; exact ⟨_, by rw [getD_at h]; exact List.getElem_mem _, hh⟩
theorem cov_zero (l : List S) (x : S) : (l.take 0).any (holdsx x) = false := rfl
theorem cov_step {l : List S} {x : S} {k : Nat} (h : k < l.length) (hp : (l.take k).any (holdsx x) = false) (hh : holdsx x (l.getD k nos) = false) : (l.take (k + 1)).any (holdsx x) = false := by
  rw [List.take_succ_eq_append_getElem h, List.any_append, hp, ← getD_at h, List.any_cons, hh]; rfl
theorem cov_all {l : List S} {x : S} {k : Nat} (h : ¬ k < l.length) (hp : (l.take k).any (holdsx x) = false) : l.any (holdsx x) = false := by
  rw [List.take_of_length_le (by omega)] at hp; exact hp

/-! The size. -/
def ssum (l : List S) : Int := (l.map (fun s => s.2 - s.1)).sum
theorem ssum_more {l : List S} {k : Nat} (h : k < l.length) : ssum (l.take (k + 1)) = ssum (l.take k) + ((l.getD k nos).2 - (l.getD k nos).1) := by
  unfold ssum; rw [List.take_succ_eq_append_getElem h, List.map_append, List.sum_append, getD_at h]; simp
theorem ssum_zero (l : List S) : ssum (l.take 0) = 0 := rfl
theorem ssum_all {l : List S} {k : Nat} (h : ¬ k < l.length) : ssum (l.take k) = ssum l := by rw [List.take_of_length_le (by omega)]
end Go.Proofs.YtjjelbijbbnmcaaGreatDoor.Spn

/-
  CONTRACTS of hasBytes, canBeInSet and IsSpanSet, the model's and the program's; nothing that was there before is changed.
-/
namespace Go.Proofs.YtjjelbijbbnmcaaGreatDoor.Spn
open Go Go.RowKit
set_option linter.unusedVariables false
set_option maxRecDepth 1000000

def BoolEnd (b : Bool) (w : World) (e : Ending) (w' : World) : Prop := e = .returned (.bool b) ∧ Below w.heap.size w w'
theorem ret_bool {a b : Bool} (h : a = b) : Ending.returned (.bool a) = .returned (.bool b) := by rw [h]
theorem has_bytes (a b : Int) (w : World) : Calls Tryz.prog 84 #[.agg #[.int .i64 a, .int .i64 b]] w (BoolEnd (decide (a < b)) w) := by
  go_enter Tryz.func84, Tryz.ntmps84
  go_wp2
  go_ret
  exact ⟨rfl, (Below.refl _ _).alloc (Nat.le_refl _) _⟩
set_option maxHeartbeats 1000000 in
theorem can_be (a b : Int) (w : World) : Calls Tryz.prog 83 #[.agg #[.int .i64 a, .int .i64 b]] w (BoolEnd (can (a, b)) w) := by
  have HB0 : Hid (Below w.heap.size w (w.alloc (.cells #[.int .i64 a, .int .i64 b] 76))) := Lib.hid ((Below.refl _ _).alloc (Nat.le_refl _) _)
  have HH := Lib.hid (has_bytes a b)
  by_cases h1 : a < 0
  · have h1' : ¬ 0 ≤ a := by omega
    have HC := Lib.hid (can_bad (x := (a, b)) (Or.inl h1))
    go_enter Tryz.func83, Tryz.ntmps83
    go_wp2
    go_ret
    exact ⟨ret_bool HC.out.symm, HB0.out⟩
  · have h1' : 0 ≤ a := by omega
    by_cases h2 : a < b
    · have HD : Hid (decide (a < b) = true) := Lib.hid (by simpa using h2)
      have HC : Hid (can (a, b) = decide (b ≤ 1000000000000)) := Lib.hid (by unfold can; simp [h1', h2])
      have HK : Hid (∀ w1, Below (w.alloc (.cells #[.int .i64 a, .int .i64 b] 76)).heap.size (w.alloc (.cells #[.int .i64 a, .int .i64 b] 76)) w1 → w1.cell? ⟨w.heap.size, 1, none⟩ = some (.int .i64 b)) := Lib.hid (fun w1 h => by rw [h.cell (p := ⟨w.heap.size, 1, none⟩) (by simp), World.cell?_alloc_new]; rfl)
      go_enter Tryz.func83, Tryz.ntmps83
      go_wp2_with (fail)
      go_at_call 84
      refine (HH.out _).mono ?_
      rintro e w1 ⟨he, hb⟩
      rw [HD.out] at he
      subst he
      have hc := HK.out _ hb
      have HB := Lib.hid (HB0.out.trans (hb.mono (by simp)))
      clear hb
      go_wp2
      all_goals go_ret
      all_goals exact ⟨ret_bool (by rw [HC.out]), HB.out⟩
    · have HD : Hid (decide (a < b) = false) := Lib.hid (by simpa using h2)
      have HC := Lib.hid (can_bad (x := (a, b)) (Or.inr (Or.inl (by show b ≤ a; omega))))
      go_enter Tryz.func83, Tryz.ntmps83
      go_wp2_with (fail)
      go_at_call 84
      refine (HH.out _).mono ?_
      rintro e w1 ⟨he, hb⟩
      rw [HD.out] at he
      subst he
      have HB := Lib.hid (HB0.out.trans (hb.mono (by simp)))
      clear hb
      go_wp2
      go_ret
      exact ⟨ret_bool HC.out.symm, HB.out⟩

theorem shape {w : World} {B : Nat} {v : Value} {l : List T} (h : Holds w B v l) : ∃ a cap, v = .slice a l.length cap ∧ (0 < l.length → ∃ b off, a = some ⟨b, off, none⟩ ∧ b < B ∧ l.length ≤ cap ∧ At w b off l) := by
  rcases h with ⟨rfl, a, cap, rfl⟩ | ⟨h0, b, off, cap, rfl, hb, hcap, hc⟩
  · exact ⟨a, cap, rfl, fun h => by simp at h⟩
  · exact ⟨_, cap, rfl, fun _ => ⟨b, off, rfl, hb, hcap, hc⟩⟩

set_option maxHeartbeats 4000000 in
theorem spec_set (v : Value) (B : Nat) (l : List T) (w : World) (h : Holds w B v l) (hB : B ≤ w.heap.size) (hl : l.length ≤ 4194304) :
    Calls Tryz.prog 44 #[v] w (BoolEnd (isSet l) w) := by
  obtain ⟨a, cap, rfl, ha⟩ := shape h
  have HA := Lib.hid ha
  have HZ := Lib.hid (set_zero l)
  clear ha h
  go_enter Tryz.func44, Tryz.ntmps44
  go_wp2
  go_loopw [3] (fun i wr => ∃ k : Nat, k ≤ l.length ∧ i = .int .i64 (k : Int) ∧ Hid (isSet (l.take k) = true) ∧ Below w.heap.size w wr) (fun i _ => l.length - (intOf i).toNat)
  case atStart => exact ⟨0, Nat.zero_le _, rfl, HZ, Below.refl _ _⟩
  case round =>
    obtain ⟨k, hk, rfl, HP, hb⟩ := hrel
    have HB := Lib.hid hb
    by_cases hlt : k < l.length
    · obtain ⟨b, off, rfl, hbw, hcap, hc⟩ := HA.out (by omega)
      have hat := at_below hc hb (Nat.lt_of_lt_of_le hbw hB)
      obtain ⟨c0, c1⟩ := at_cells hat hlt
      have HAT := Lib.hid hat
      have HS := Lib.hid (fun h1 h2 => set_step (l := l) hlt HP.out h1 h2)
      have HN := Lib.hid (fun h1 => set_bad (l := l) hlt h1)
      clear hb hc hat
      have hn : l.getD k nov = l.getD k nos := rfl
      rw [hn] at c0 c1
      clear hn
      generalize hx : l.getD k nos = x at c0 c1 HS HN
      clear hx
      obtain ⟨x, y⟩ := x
      simp only at c0 c1 HS HN
      have hki : (k : Int) < (l.length : Int) := by omega
      by_cases h1 : x < 0
      · have HE := Lib.hid (HN.out (Or.inl (can_bad (Or.inl h1))))
        have d1 : decide (x < 0) = true := by simpa using h1
        clear HS HN
        go_wp2
        go_quiet (fail)
        go_wp2
        go_ret
        exact ⟨ret_bool HE.out.symm, Rec.below_drewN HB.out _⟩
      · have d1 : decide (x < 0) = false := by simpa using h1
        by_cases h2 : y ≤ x
        · have HE := Lib.hid (HN.out (Or.inl (can_bad (Or.inr (Or.inl h2)))))
          have d2 : decide (y ≤ x) = true := by simpa using h2
          clear HS HN
          go_wp2
          go_quiet (fail)
          go_wp2
          go_ret
          exact ⟨ret_bool HE.out.symm, Rec.below_drewN HB.out _⟩
        · have d2 : decide (y ≤ x) = false := by simpa using h2
          by_cases h3 : 1000000000000 < y
          · have HE := Lib.hid (HN.out (Or.inl (can_bad (Or.inr (Or.inr h3)))))
            have d3 : decide (1000000000000 < y) = true := by simpa using h3
            clear HS HN
            go_wp2
            go_quiet (fail)
            go_wp2
            go_ret
            exact ⟨ret_bool HE.out.symm, Rec.below_drewN HB.out _⟩
          · have d3 : decide (1000000000000 < y) = false := by simpa using h3
            have HCAN : Hid (can (x, y) = true) := Lib.hid (by rw [can_iff]; simp only; omega)
            by_cases h4 : 0 < k
            · have h4' : 0 < (k : Int) := by omega
              have d4 : decide (0 < (k : Int)) = true := by simpa using h4'
              obtain ⟨p0, p1⟩ := at_cells HAT.out (j := k - 1) (by omega)
              have hn : l.getD (k - 1) nov = l.getD (k - 1) nos := rfl
              rw [hn] at p0 p1
              generalize (l.getD (k - 1) nos) = z at p0 p1 HS HN
              obtain ⟨z0, z1⟩ := z
              simp only at p0 p1 HS HN
              have hk1 : ((k : Int) - 1).toNat = k - 1 := by omega
              have hkb : 0 ≤ (k : Int) - 1 := by omega
              have hkc : (k : Int) - 1 < (l.length : Int) := by omega
              have hw1 : IntKind.i64.wrap ((k : Int) - 1) = (k : Int) - 1 := IntWalk.i64_in _ (by omega)
              clear p0 hn
              by_cases h5 : x ≤ z1
              · have d5 : decide (x ≤ z1) = true := by simpa using h5
                have HE := Lib.hid (HN.out (Or.inr ⟨h4, h5⟩))
                clear HS HN
                go_wp2
                go_quiet (fail)
                go_wp2
                go_ret
                exact ⟨ret_bool HE.out.symm, Rec.below_drewN HB.out _⟩
              · have d5 : decide (x ≤ z1) = false := by simpa using h5
                have HE := Lib.hid (HS.out HCAN.out (Or.inr (by omega)))
                clear HS HN
                go_wp2
                go_quiet (fail)
                go_wp2
                go_roundw
                case rel => exact ⟨k + 1, by omega, by go_num, HE, Rec.below_drewN HB.out _⟩
                case measure => simp [intOf]; omega
            · have d4 : decide (0 < (k : Int)) = false := by simp; omega
              have HE := Lib.hid (HS.out HCAN.out (Or.inl (by omega)))
              clear HS HN
              go_wp2
              go_quiet (fail)
              go_wp2
              go_roundw
              case rel => exact ⟨k + 1, by omega, by go_num, HE, Rec.below_drewN HB.out _⟩
              case measure => simp [intOf]; omega
    · have HE := Lib.hid (set_all hlt HP.out)
      clear hb
      go_wp2
      go_ret
      exact ⟨ret_bool HE.out.symm, HB.out⟩
end Go.Proofs.YtjjelbijbbnmcaaGreatDoor.Spn
