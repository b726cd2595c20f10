/-
  CONTRACTS AND PLAIN FACTS, several texts in one; each says in its own words what it proves.
-/
import Derived.Test.YtobhdfkhfmpdlaaGreatDoorPartD
import Derived.Test.YtobhdfkhfmpdlaaGreatDoorPartH
import Derived.Lib.AtoiAllCases
import Derived.Test.YtobhdfkhfmpdlaaGreatDoorRows
import Derived.WalkKit
import Derived.ProofKit
import Derived.Lib.Hide
import Derived.OpenShut
set_option linter.unusedSimpArgs false
set_option linter.unusedVariables false

/-
  CONTRACTS of the draws of chapter 8 (l8Asks, DrawParseRanges: as functions of the bytes of the draw; DrawResolveRanges: few asks in memory of their own, and a short length).
-/
namespace Go.Proofs.YtobhdfkhfmpdlaaGreatDoor.Cf
open Go Go.RowKit Cur Rng
set_option linter.unusedVariables false
set_option maxRecDepth 1000000

/-- One more ask. -/
def ask1 (κ : Src) (l : List Asks.T) (st : Int × Int) : List Asks.T × (Int × Int) :=
  if (belowF κ 4 (belowF κ 12 st).2).1 = 0 then (l ++ [(-1, (belowF κ 12 st).1)], (belowF κ 4 (belowF κ 12 st).2).2)
  else if (belowF κ 4 (belowF κ 12 st).2).1 = 1 then (l ++ [((belowF κ 12 st).1, -1)], (belowF κ 4 (belowF κ 12 st).2).2)
  else (l ++ [((belowF κ 12 st).1, (belowF κ 12 st).1 + (belowF κ 9 (belowF κ 4 (belowF κ 12 st).2).2).1)], (belowF κ 9 (belowF κ 4 (belowF κ 12 st).2).2).2)
def asksF (κ : Src) : Nat → List Asks.T → Int × Int → List Asks.T × (Int × Int)
  | 0, l, st => (l, st)
  | k + 1, l, st => asksF κ k (ask1 κ l st).1 (ask1 κ l st).2
def asks8 (κ : Src) (st : Int × Int) : List Asks.T × (Int × Int) := asksF κ (1 + (belowF κ 3 st).1).toNat [] (belowF κ 3 st).2
def Sma (a : Asks.T) : Prop := -1 ≤ a.1 ∧ a.1 ≤ 11 ∧ -1 ≤ a.2 ∧ a.2 ≤ 19
theorem sma_ok {a : Asks.T} (h : Sma a) : Asks.Ok a := by unfold Sma at h; unfold Asks.Ok; omega
theorem ask1_sml (κ : Src) (l : List Asks.T) (st : Int × Int) (h : ∀ a ∈ l, Sma a) : (∀ a ∈ (ask1 κ l st).1, Sma a) ∧ (ask1 κ l st).1.length = l.length + 1 := by
  have h1 := belowF_under κ 12 st
  have h2 := belowF_under κ 9 (belowF κ 4 (belowF κ 12 st).2).2
  have a0 := h1.1; have a1 := h1.2; have b0 := h2.1; have b1 := h2.2
  unfold ask1
  have key : ∀ x : Asks.T, Sma x → (∀ a ∈ l ++ [x], Sma a) ∧ (l ++ [x]).length = l.length + 1 := by
    intro x hx
    refine ⟨fun a ha => ?_, by simp⟩
    rcases List.mem_append.1 ha with ha | ha
    · exact h a ha
    · rw [List.mem_singleton] at ha; subst ha; exact hx
  split
  · exact key _ ⟨by show (-1 : Int) ≤ -1; omega, by show (-1 : Int) ≤ 11; omega, by show (-1 : Int) ≤ (belowF κ 12 st).1; omega, by show (belowF κ 12 st).1 ≤ 19; omega⟩
  · split
    · exact key _ ⟨by show (-1 : Int) ≤ (belowF κ 12 st).1; omega, by show (belowF κ 12 st).1 ≤ 11; omega, by show (-1 : Int) ≤ -1; omega, by show (-1 : Int) ≤ 19; omega⟩
    · exact key _ ⟨by show (-1 : Int) ≤ (belowF κ 12 st).1; omega, by show (belowF κ 12 st).1 ≤ 11; omega, by show (-1 : Int) ≤ (belowF κ 12 st).1 + _; omega, by show (belowF κ 12 st).1 + (belowF κ 9 _).1 ≤ 19; omega⟩
theorem asksF_sml (κ : Src) : ∀ (k : Nat) (l : List Asks.T) (st : Int × Int), (∀ a ∈ l, Sma a) → (∀ a ∈ (asksF κ k l st).1, Sma a) ∧ (asksF κ k l st).1.length = l.length + k
  | 0, l, st, h => ⟨h, rfl⟩
  | k + 1, l, st, h => by
    have h1 := ask1_sml κ l st h
    have h2 := asksF_sml κ k (ask1 κ l st).1 (ask1 κ l st).2 h1.1
    unfold asksF
    exact ⟨h2.1, by rw [h2.2, h1.2]; omega⟩
theorem asks8_sml (κ : Src) (st : Int × Int) : (∀ a ∈ (asks8 κ st).1, Sma a) ∧ 1 ≤ (asks8 κ st).1.length ∧ (asks8 κ st).1.length ≤ 3 := by
  have hu := belowF_under κ 3 st
  have a0 := hu.1; have a1 := hu.2
  have h := asksF_sml κ (1 + (belowF κ 3 st).1).toNat [] (belowF κ 3 st).2 (fun a ha => by cases ha)
  unfold asks8
  refine ⟨h.1, ?_, ?_⟩
  · rw [h.2]; simp; omega
  · rw [h.2]; simp; omega

/-- How l8Asks ends. -/
def DrawnA (p : List Asks.T × (Int × Int)) (c : Nat) (bv : Value) (w : World) (e : Ending) (w' : World) : Prop := ∃ v : Value, e = .returned v ∧ Asks.Own w' w.heap.size v p.1 ∧ CurS w' c bv p.2 ∧ w.grownBy w' (some c)
theorem curS_row {w w' : World} {c : Nat} {bv : Value} {st : Int × Int} {row : Option Nat} (h : CurS w c bv st) (hg : w.grownBy w' row) (hne : ∀ k, row = some k → k ≠ c) : CurS w' c bv st :=
  ⟨h.1, by rw [hg.block c (lt_of_block h.2) (fun e => hne c e.symm rfl)]; exact h.2⟩

set_option maxHeartbeats 8000000 in
theorem asks_fn (c B : Nat) (bv : Value) (κ : Src) (st : Int × Int) (w : World) (hcur : CurS w c bv st) (hby : BytesS w B bv κ) (hB : B ≤ c) :
    Calls Tryz.prog 21 #[.pointer (some ⟨c, 0, none⟩)] w (DrawnA (asks8 κ st) c bv w) := by
  obtain ⟨i0, hi, hz0, hz1, hz2⟩ := info_parts Asks.info_r
  generalize hR : asks8 κ st = R
  unfold asks8 at hR
  have hcw := curS_lt hcur
  have hcu := curS_alloc hcur (.cells #[] 30)
  have hby1 := bytesS_alloc hby (.cells #[] 30)
  have hgw : w.grownBy (w.alloc (.cells #[] 30)) (some c) := World.grownBy_alloc _ _ _
  have HO := Lib.hid (Asks.own_lit_nil w)
  have k1 := below_fn c B bv κ st 3 _ hcu hby1 hB (by omega)
  have hx := belowF_under κ 3 st
  generalize belowF κ 3 st = p at hR k1 hx
  obtain ⟨x, st1⟩ := p
  have hx0 : (0 : Int) ≤ x := hx.1
  have hx1 : x < 3 ∨ _ := hx.2
  obtain ⟨n, rfl, hn⟩ : ∃ n : Nat, x = (n : Int) ∧ n ≤ 2 := ⟨x.toNat, by omega, by omega⟩
  have hR : asksF κ (1 + n) [] st1 = R := by rw [← hR]; congr 1
  clear hx hx0 hx1 hcur
  go_enter Tryz.func21, Tryz.ntmps21
  go_wp2_with (fail)
  go_at_call 37
  refine k1.mono ?_
  rintro e w2 ⟨rfl, hc2, hg2⟩
  have HO2 := Lib.hid (HO.out.kept hg2 (Or.inr (fun e => by have := (HO.out.lt _ e).1; omega)))
  have HI := Lib.hid (And.intro hR (And.intro hc2 (gb_trans hgw hg2)))
  have HBY := Lib.hid hby
  have HN1 := Lib.hid (show (1 : Int) + (n : Int) = ((1 + n : Nat) : Int) by omega)
  clear hc2 hg2 hby hR k1 hby1 hgw hcu HO
  go_wp2
  go_loopw [3, 4] (fun u i wr => ∃ (k : Nat) (l : List Asks.T) (sk : Int × Int), i = .int .i64 (k : Int) ∧ l.length + k ≤ 3 ∧ asksF κ k l sk = R ∧ Hid (Asks.Own wr w.heap.size u l) ∧ Hid (CurS wr c bv sk) ∧ Hid (w.grownBy wr (some c))) (fun _ i _ => (intOf i).toNat)
  case atStart => exact ⟨1 + n, [], st1, by rw [← HN1.out], by simp; omega, HI.out.1, HO2, Lib.hid HI.out.2.1, Lib.hid HI.out.2.2⟩
  case round =>
    clear HI HO2 HN1
    obtain ⟨k, l, sk, rfl, hl, hR, HO, HC, HG⟩ := hrel
    by_cases hz : 0 < k
    · obtain ⟨m, rfl⟩ : ∃ m, k = m + 1 := ⟨k - 1, by omega⟩
      have hzi : 0 < ((m + 1 : Nat) : Int) := by omega
      have hby2 := bytesS_kept HBY.out HG.out hB
      unfold asksF ask1 at hR
      have hL := Asks.fcs_len l
      have k2 := below_fn c B bv κ sk 12 _ HC.out hby2 hB (by omega)
      have hx := belowF_under κ 12 sk
      generalize belowF κ 12 sk = p at hR k2 hx
      obtain ⟨a, s2⟩ := p
      dsimp only at hR
      have hx0 : (0 : Int) ≤ a := hx.1
      have hx1 : a < 12 ∨ _ := hx.2
      have ha2 : a < 12 := by omega
      clear hx hx1
      go_wp2_with (fail)
      go_at_call 37
      refine k2.mono ?_
      rintro e w3 ⟨rfl, hc3, hg3⟩
      have hby3 := bytesS_kept hby2 hg3 hB
      have HG3 := Lib.hid (gb_trans HG.out hg3)
      have HO3 := Lib.hid (HO.out.kept hg3 (Or.inr (fun e => by have := (HO.out.lt _ e).1; omega)))
      have k3 := below_fn c B bv κ s2 4 _ hc3 hby3 hB (by omega)
      have hx := belowF_under κ 4 s2
      generalize belowF κ 4 s2 = p at hR k3 hx
      obtain ⟨j, s3⟩ := p
      dsimp only at hR
      have hj0 : (0 : Int) ≤ j := hx.1
      have hj1 : j < 4 ∨ _ := hx.2
      have hj2 : j < 4 := by omega
      clear hx hj1 hg3 HO HG HC hby2 k2
      go_wp2_with (fail)
      go_at_call 37
      refine k3.mono ?_
      rintro e w4 ⟨rfl, hc4, hg4⟩
      have hby4 := bytesS_kept hby3 hg4 hB
      have HG4 := Lib.hid (gb_trans HG3.out hg4)
      have hown := HO3.out.kept hg4 (Or.inr (fun e => by have := (HO3.out.lt _ e).1; omega))
      have HK := Lib.hid (show ((m + 1 : Nat) : Int) - 1 = (m : Int) by omega)
      have hsz4 := HG4.out.size
      clear hg4 HO3 HG3 hby3 hc3 k3
      by_cases e0 : j = 0
      · subst e0
        rw [if_pos rfl] at hR
        dsimp only at hR
        have HC4 := Lib.hid hc4
        have HR := Lib.hid hR
        clear hc4 hR hby4
        go_wp2_with (at_builtin; refine wpList_append_own _ rfl _ _ 24 rfl w.heap.size 30 i0 (.agg #[.int .i64 0, .int .i64 0]) 2 16 Tryz.underlying24 hi hz0 hz1 hz2 rfl (by decide) _ _ _ rfl (hown.alloc _) ⟨w4.heap.size, 0, none⟩ 1 1 [.int .i64 (-1), .int .i64 a] rfl rfl (Rec.news _ _ _) (Asks.cs_one (-1, a)) (by unfold maxLen; omega) (by omega) (by simp; omega) ?_; intro v1 w5 hown1 hg1 _)
        have R5 : Hid (Asks.Own w5 w.heap.size v1 (l ++ [(-1, a)])) := Lib.hid (by show w5.ownsRow _ _ _ _ (l ++ [(-1, a)]).length (Asks.fcs (l ++ [(-1, a)])); rw [List.length_append, Asks.fcs_more]; exact hown1)
        have HC5 := Lib.hid (curS_row (curS_alloc HC4.out _) hg1 (fun k e => by have := (hown.lt k e).1; omega))
        have HG5 := Lib.hid (gb_own (gb_trans HG4.out (World.grownBy_alloc _ _ _)) hg1 (fun k e => (hown.lt k e).1))
        clear hown hown1 hg1 HC4 HG4
        go_wp2
        go_roundw
        case rel => exact ⟨m, l ++ [(-1, a)], s3, by rw [← HK.out], by rw [List.length_append]; simp; omega, HR.out, R5, HC5, HG5⟩
        case measure => simp [intOf]
      · by_cases e1 : j = 1
        · subst e1
          rw [if_neg (by decide), if_pos rfl] at hR
          dsimp only at hR
          have HC4 := Lib.hid hc4
          have HR := Lib.hid hR
          clear hc4 hR hby4
          go_wp2_with (at_builtin; refine wpList_append_own _ rfl _ _ 24 rfl w.heap.size 30 i0 (.agg #[.int .i64 0, .int .i64 0]) 2 16 Tryz.underlying24 hi hz0 hz1 hz2 rfl (by decide) _ _ _ rfl (hown.alloc _) ⟨w4.heap.size, 0, none⟩ 1 1 [.int .i64 a, .int .i64 (-1)] rfl rfl (Rec.news _ _ _) (Asks.cs_one (a, -1)) (by unfold maxLen; omega) (by omega) (by simp; omega) ?_; intro v1 w5 hown1 hg1 _)
          have R5 : Hid (Asks.Own w5 w.heap.size v1 (l ++ [(a, -1)])) := Lib.hid (by show w5.ownsRow _ _ _ _ (l ++ [(a, -1)]).length (Asks.fcs (l ++ [(a, -1)])); rw [List.length_append, Asks.fcs_more]; exact hown1)
          have HC5 := Lib.hid (curS_row (curS_alloc HC4.out _) hg1 (fun k e => by have := (hown.lt k e).1; omega))
          have HG5 := Lib.hid (gb_own (gb_trans HG4.out (World.grownBy_alloc _ _ _)) hg1 (fun k e => (hown.lt k e).1))
          clear hown hown1 hg1 HC4 HG4
          go_wp2
          go_roundw
          case rel => exact ⟨m, l ++ [(a, -1)], s3, by rw [← HK.out], by rw [List.length_append]; simp; omega, HR.out, R5, HC5, HG5⟩
          case measure => simp [intOf]
        · rw [if_neg e0, if_neg e1] at hR
          have k4 := below_fn c B bv κ s3 9 _ hc4 hby4 hB (by omega)
          have hx := belowF_under κ 9 s3
          generalize belowF κ 9 s3 = p at hR k4 hx
          obtain ⟨d, s4⟩ := p
          dsimp only at hR
          have hd0 : (0 : Int) ≤ d := hx.1
          have hd1 : d < 9 ∨ _ := hx.2
          have hd2 : d < 9 := by omega
          have HR := Lib.hid hR
          clear hx hd1 hR
          go_wp2_with (fail)
          go_at_call 37
          refine k4.mono ?_
          rintro e w6 ⟨rfl, hc6, hg6⟩
          have hown6 := hown.kept hg6 (Or.inr (fun e => by have := (hown.lt _ e).1; omega))
          have HG6 := Lib.hid (gb_trans HG4.out hg6)
          have HC6 := Lib.hid hc6
          have hsz6 := HG6.out.size
          clear hown hg6 hc6 hc4 hby4 k4 HG4
          go_wp2_with (at_builtin; refine wpList_append_own _ rfl _ _ 24 rfl w.heap.size 30 i0 (.agg #[.int .i64 0, .int .i64 0]) 2 16 Tryz.underlying24 hi hz0 hz1 hz2 rfl (by decide) _ _ _ rfl (hown6.alloc _) ⟨w6.heap.size, 0, none⟩ 1 1 [.int .i64 a, .int .i64 (a + d)] rfl rfl (Rec.news _ _ _) (Asks.cs_one (a, a + d)) (by unfold maxLen; omega) (by omega) (by simp; omega) ?_; intro v1 w5 hown1 hg1 _)
          have R5 : Hid (Asks.Own w5 w.heap.size v1 (l ++ [(a, a + d)])) := Lib.hid (by show w5.ownsRow _ _ _ _ (l ++ [(a, a + d)]).length (Asks.fcs (l ++ [(a, a + d)])); rw [List.length_append, Asks.fcs_more]; exact hown1)
          have HC5 := Lib.hid (curS_row (curS_alloc HC6.out _) hg1 (fun k e => by have := (hown6.lt k e).1; omega))
          have HG5 := Lib.hid (gb_own (gb_trans HG6.out (World.grownBy_alloc _ _ _)) hg1 (fun k e => (hown6.lt k e).1))
          clear hown6 hown1 hg1 HC6 HG6
          go_wp2
          go_roundw
          case rel => exact ⟨m, l ++ [(a, a + d)], s4, by rw [← HK.out], by rw [List.length_append]; simp; omega, HR.out, R5, HC5, HG5⟩
          case measure => simp [intOf]
    · have hzi : ¬ 0 < (k : Int) := by omega
      obtain rfl : k = 0 := by omega
      have hR : (l, sk) = R := hR
      subst hR
      clear hl
      go_wp2
      go_ret
      exact ⟨_, rfl, HO.out, HC.out, HG.out⟩

def d8 : List (List UInt8) := [[], [98, 121, 116, 101, 115, 61], [98, 121, 116, 101, 115, 61, 45], [98, 121, 116, 101, 115, 61, 53, 45, 51], [98, 121, 116, 101, 115, 61, 48, 45, 48], [98, 121, 116, 101, 115, 61, 49, 45, 50, 44, 51, 45, 52, 44, 45, 53, 44, 54, 45, 44, 55, 45, 56, 44, 57, 45, 57], [98, 121, 116, 101, 115, 61, 49, 45, 44, 50, 45, 44, 51, 45, 44, 52, 45, 44, 53, 45, 44, 54, 45, 44, 55, 45], [105, 116, 101, 109, 115, 61, 48, 45, 49], [98, 121, 116, 101, 115, 61, 97, 45, 98], [98, 121, 116, 101, 115, 61, 32, 49, 32, 45, 32, 50], [66, 121, 116, 101, 115, 61, 48, 45, 49], [98, 121, 116, 101, 115, 61, 48, 49, 45, 50]]
theorem d8_len (x : List UInt8) (h : x ∈ d8) : x.length ≤ 27 := by
  have hall : d8.all (fun x => decide (x.length ≤ 27)) = true := by decide
  have := List.all_eq_true.1 hall x h
  simpa using this
theorem frng_len {l : List Asks.T} (hl : l.length ≤ 3) (hok : ∀ a ∈ l, Asks.Ok a) : (frng l).length ≤ 200 := by
  have key : ∀ m : List Asks.T, (∀ a ∈ m, Asks.Ok a) → ((fal m).map (·.length)).sum ≤ 41 * m.length := by
    intro m hm
    induction m with
    | nil => simp [fal]
    | cons a r ih =>
      have h1 := ih (fun b hb => hm b (by simp [hb]))
      have h2 := hm a (by simp)
      have h3 := fa_len (p := a.1) (q := a.2) h2.1 h2.2
      unfold fal at h1 ⊢
      simp only [List.map_cons, List.sum_cons, List.length_cons]
      omega
  have h1 := key l hok
  have h2 := fal_len l
  have h3 := Tx.join_len (fal l) (fal l).length (Nat.le_refl _)
  rw [List.take_length] at h3
  have h4 := Tx.pre_le (fal l) (fal l).length
  unfold frng
  simp only [List.length_append, List.length_cons, List.length_nil]
  omega
/-- The text that DrawParseRanges makes of the bytes. -/
def draw8F (κ : Src) : List UInt8 :=
  if (belowF κ 3 (0, newH κ)).1 = 0 then (strF κ d8 (belowF κ 3 (0, newH κ)).2).1
  else (bentF κ (frng (asks8 κ (belowF κ 3 (0, newH κ)).2).1) (asks8 κ (belowF κ 3 (0, newH κ)).2).2).1
theorem draw8F_len (κ : Src) : (draw8F κ).length ≤ 201 := by
  unfold draw8F
  split
  · have := d8_len _ (strF_mem κ d8 (belowF κ 3 (0, newH κ)).2 (by decide)); omega
  · have h1 := asks8_sml κ (belowF κ 3 (0, newH κ)).2
    have h2 := frng_len h1.2.2 (fun a ha => sma_ok (h1.1 a ha))
    have h3 := bentF_len κ (frng (asks8 κ (belowF κ 3 (0, newH κ)).2).1) (asks8 κ (belowF κ 3 (0, newH κ)).2).2
    omega
def TextEnd8 (x : List UInt8) (w : World) (e : Ending) (w' : World) : Prop := e = .returned (.string ⟨x.toArray⟩) ∧ Below w.heap.size w w'
theorem cur_any {w : World} {c : Nat} {bv : Value} {st : Int × Int} (h : CurS w c bv st) : CurAt w c bv := ⟨st.1, st.2, h.1, h.2⟩
theorem bytes_any {w : World} {B : Nat} {bv : Value} {κ : Src} (h : BytesS w B bv κ) : Bytes w B bv := by
  obtain ⟨len, f⟩ := κ
  obtain ⟨a, cap, rfl, ha⟩ := h
  by_cases h0 : 0 < len
  · obtain ⟨b, off, rfl, h2, h3, h4, h5⟩ := ha h0
    exact Or.inr ⟨b, off, len, cap, f, rfl, h2, h3, h4, h5⟩
  · obtain rfl : len = 0 := by omega
    exact Or.inl ⟨_, _, rfl⟩
theorem curS_below {w w' : World} {c : Nat} {bv : Value} {st : Int × Int} (h : CurS w c bv st) (hb : Below w.heap.size w w') : CurS w' c bv st := ⟨h.1, (hb.block c (lt_of_block h.2)).trans h.2⟩

set_option maxHeartbeats 4000000 in
theorem draw8_fn (B : Nat) (bv : Value) (κ : Src) (w : World) (hby : BytesS w B bv κ) (hB : B ≤ w.heap.size) :
    Calls Tryz.prog 6 #[bv] w (TextEnd8 (draw8F κ) w) := by
  generalize hR : draw8F κ = R
  unfold draw8F at hR
  have hbw : Below w.heap.size w (w.alloc (.cells #[bv, .int .i64 0, .int .i64 (newH κ)] 70)) := (Below.refl _ _).alloc (Nat.le_refl _) _
  have hy1 := bytesS_alloc hby (.cells #[bv, .int .i64 0, .int .i64 (newH κ)] 70)
  have k1 := once_fn w.heap.size B bv κ (0, newH κ) 3 _ (made_curS bv (newH κ) w) hy1 hB (by omega)
  generalize belowF κ 3 (0, newH κ) = p at hR k1
  obtain ⟨x, st1⟩ := p
  dsimp only at hR k1
  go_enter Tryz.func6, Tryz.ntmps6
  go_wp2_with (fail)
  go_at_call 16
  refine (new_fn B bv κ _ hby).mono ?_
  rintro e w1 ⟨rfl, rfl⟩
  go_wp2_with (fail)
  go_at_call 17
  refine k1.mono ?_
  rintro e w2 ⟨rfl, hc2, hg2⟩
  have hy2 := bytesS_kept hy1 hg2 hB
  have HB2 := Lib.hid (below_gb hbw hg2 hbw.size (Nat.le_refl _))
  have hsz2 := hg2.size
  clear hg2 k1 hy1 hbw hby
  by_cases e0 : x = 0
  · subst e0
    rw [if_pos rfl] at hR
    have H1 := str_new w.heap.size B bv κ st1 d8 12 rfl w2 hc2 hy2 hB (by decide) (by decide) 9
    generalize strF κ d8 st1 = p at hR H1
    obtain ⟨z, st2⟩ := p
    dsimp only at hR
    subst hR
    clear hc2 hy2
    have hdec : decide ((0 : Int) = 0) = true := by decide
    go_wp2_with (fail)
    go_at_call 18
    refine H1.mono ?_
    rintro e w3 ⟨rfl, hc3, hg3⟩
    have HE := Lib.hid (below_gb HB2.out hg3 HB2.out.size (Nat.le_refl _))
    clear hc3 hg3 H1
    go_wp2
    go_ret
    exact ⟨rfl, HE.out⟩
  · rw [if_neg e0] at hR
    have hdec : decide (x = 0) = false := decide_eq_false e0
    have k2 := asks_fn w.heap.size B bv κ st1 w2 hc2 hy2 hB
    have hs := asks8_sml κ st1
    generalize asks8 κ st1 = p at hR k2 hs
    obtain ⟨l, st2⟩ := p
    dsimp only at hR hs
    have hok : ∀ a ∈ l, Asks.Ok a := fun a ha => sma_ok (hs.1 a ha)
    have hfl := frng_len hs.2.2 hok
    have hl3 := hs.2.2
    have HF := Lib.hid (fun (W : World) (v : Value) (h : Asks.Holds W W.heap.size v l) => spec_frng v W.heap.size l W h (Nat.le_refl _) (by omega) hok)
    unfold Crf.TxtEnd at HF
    generalize frng l = t at hR hfl HF
    have HR := Lib.hid hR
    clear hR hs hok hc2
    go_wp2_with (fail)
    go_at_call 21
    refine k2.mono ?_
    rintro e w3 ⟨v, rfl, ho, hc3, hg3⟩
    have hy3 := bytesS_kept hy2 hg3 hB
    have HB3 := Lib.hid (below_gb HB2.out hg3 HB2.out.size (Nat.le_refl _))
    have HC3 := Lib.hid hc3
    clear hg3 k2 HB2 hy2 hc3
    go_wp2_with (fail)
    go_at_call 20
    refine (HF.out _ _ (Asks.own_holds ho)).mono ?_
    rintro e w4 ⟨rfl, hb4⟩
    have HC4 := Lib.hid (curS_below HC3.out hb4)
    have HB4 := Lib.hid (Base.then_below HB3.out hb4)
    have hy4 := bytesS_below hy3 (hb4.mono (by have := HB3.out.size; omega))
    clear ho hb4 HF HC3 HB3 hy3
    go_wp2_with (fail)
    go_at_call 19
    refine (bent_fn w.heap.size B bv κ st2 t _ HC4.out hy4 hB (by omega)).mono ?_
    rintro e w5 ⟨rfl, hc5, hg5⟩
    rw [HR.out]
    have HE := Lib.hid (below_gb HB4.out hg5 HB4.out.size (Nat.le_refl _))
    clear hc5 hg5 hy4
    go_wp2
    go_ret
    exact ⟨rfl, HE.out⟩
end Go.Proofs.YtobhdfkhfmpdlaaGreatDoor.Cf

/-
  CONTRACT of the model's draw DrawResolveRanges: few asks in memory of their own, and a short length; nothing that was there before is changed.
-/
namespace Go.Proofs.YtobhdfkhfmpdlaaGreatDoor.Cf
open Go Go.RowKit Cur Rng
set_option linter.unusedVariables false
set_option maxRecDepth 1000000

def lens8 : List Int := [0, 1, 5, 10, 20, -1]
def AsksLen (w : World) (e : Ending) (w' : World) : Prop := ∃ (v : Value) (l : List Asks.T) (n : Int), e = .returned (.tuple #[v, .int .i64 n]) ∧ l.length ≤ 3 ∧ (∀ a ∈ l, -1 ≤ a.1 ∧ Asks.Ok a) ∧ -1 ≤ n ∧ n ≤ 20 ∧ Asks.Own w' w.heap.size v l ∧ Below w.heap.size w w'
theorem lens8_in {n : Int} (h : n ∈ lens8) : -1 ≤ n ∧ n ≤ 20 := by unfold lens8 at h; simp at h; omega

theorem own_shape8 {w : World} {base : Nat} {e : TypeId} {size n : Nat} {v : Value} {xs : List Value} (h : w.ownsRow base e size v n xs) (hn : 0 < n) : ∃ g cap, v = .slice (some ⟨g, 0, none⟩) n cap := by
  rcases h.2 with ⟨rfl, h0⟩ | ⟨g, cap, cur, rfl, _⟩
  · omega
  · exact ⟨g, cap, rfl⟩

set_option maxHeartbeats 4000000 in
theorem draw_rv (B : Nat) (bv : Value) (κ : Src) (w : World) (hby : BytesS w B bv κ) (hB : B ≤ w.heap.size) :
    Calls Tryz.prog 9 #[bv] w (AsksLen w) := by
  have hbw : Below w.heap.size w (w.alloc (.cells #[bv, .int .i64 0, .int .i64 (newH κ)] 70)) := (Below.refl _ _).alloc (Nat.le_refl _) _
  have hy1 := bytesS_alloc hby (.cells #[bv, .int .i64 0, .int .i64 (newH κ)] 70)
  have hsz : (w.alloc (.cells #[bv, .int .i64 0, .int .i64 (newH κ)] 70)).heap.size = w.heap.size + 1 := by simp
  have k1 := asks_fn w.heap.size B bv κ (0, newH κ) _ (made_curS bv (newH κ) w) hy1 hB
  have hs := asks8_sml κ (0, newH κ)
  generalize asks8 κ (0, newH κ) = p at k1 hs
  obtain ⟨l, st1⟩ := p
  dsimp only at hs
  have HSZ := Lib.hid hsz
  unfold DrawnA at k1
  rw [hsz] at k1
  clear hsz
  have hok : ∀ a ∈ l, -1 ≤ a.1 ∧ Asks.Ok a := fun a ha => ⟨(hs.1 a ha).1, sma_ok (hs.1 a ha)⟩
  obtain ⟨_, hl1, hl3⟩ := hs
  go_enter Tryz.func9, Tryz.ntmps9
  go_wp2_with (fail)
  go_at_call 16
  refine (new_fn B bv κ _ hby).mono ?_
  rintro e w1 ⟨rfl, rfl⟩
  go_wp2_with (fail)
  go_at_call 21
  refine k1.mono ?_
  rintro e w2 ⟨v, rfl, ho, hc2, hg2⟩
  have hy2 := bytesS_kept hy1 hg2 hB
  have HB2 := Lib.hid (below_gb hbw hg2 hbw.size (Nat.le_refl _))
  have HO2 := Lib.hid ho
  clear hg2 k1 hbw hby ho hy1
  have k2 := once_fn w.heap.size B bv κ st1 6 w2 hc2 hy2 hB (by omega)
  generalize belowF κ 6 st1 = p at k2
  obtain ⟨x, st2⟩ := p
  dsimp only at k2
  go_wp2_with (fail)
  go_at_call 17
  refine k2.mono ?_
  rintro e w3 ⟨rfl, hc3, hg3⟩
  have HO3 := Lib.hid (HO2.out.kept hg3 (Or.inr (fun e => by have := (HO2.out.lt _ e).1; omega)))
  have hy3 := Cf.bytes_any (bytesS_kept hy2 hg3 hB)
  have HB3 := Lib.hid (below_gb HB2.out hg3 HB2.out.size (Nat.le_refl _))
  have hca := cur_any hc3
  clear hg3 k2 hc2 hy2 HB2 HO2 hc3
  by_cases e0 : x = 0
  · subst e0
    have hdec : decide ((0 : Int) = 0) = true := by decide
    obtain ⟨⟨a, b⟩, r, rfl⟩ : ∃ d r, l = d :: r := by
      cases l with
      | nil => simp at hl1
      | cons d r => exact ⟨d, r, rfl⟩
    go_wp2_with (fail)
    go_at_call 26
    refine (odd_any w.heap.size B bv w3 hca hy3 hB).mono ?_
    rintro e w4 ⟨z, hz, rfl, hc4, hg4⟩
    have ho4 := HO3.out.kept hg4 (Or.inr (fun e => by have := (HO3.out.lt _ e).1; omega))
    have hy4 := bytes_kept hy3 hg4 hB
    have HB4 := Lib.hid (below_gb HB3.out hg4 HB3.out.size (Nat.le_refl _))
    obtain ⟨g, cap, rfl⟩ := own_shape8 ho4 (by simp)
    have hlt := ho4.lt g rfl
    have x1 : w4.cell? ⟨g, 1, none⟩ = some (.int .i64 b) := by simpa using (Asks.own_cells ho4 (j := 0) (by simp)).2
    have f1 : w4.frozen? ⟨g, 1, none⟩ = false := ho4.frozenAt 1
    have hst := (ho4.stored 1 (.int .i64 z)).1
    have HO5 : Hid (Asks.Own (w4.setCell ⟨g, 1, none⟩ (.int .i64 z)) (w.heap.size + 1) (.slice (some ⟨g, 0, none⟩) (r.length + 1) cap) ((a, z) :: r)) := Lib.hid hst
    have hgs := gb_set w4 g 1 (.int .i64 z)
    have hc5 : CurAt (w4.setCell ⟨g, 1, none⟩ (.int .i64 z)) w.heap.size bv := cur_row hc4 hgs (fun k e => by cases e; omega)
    have hy5 : Bytes (w4.setCell ⟨g, 1, none⟩ (.int .i64 z)) B bv := bytes_row hy4 hgs (fun k e => by cases e; omega)
    have HB5 : Hid (Below w.heap.size w (w4.setCell ⟨g, 1, none⟩ (.int .i64 z))) := Lib.hid (HB4.out.setCell (by show w.heap.size ≤ g; omega) _)
    have HOK : Hid (∀ d ∈ (a, z) :: r, -1 ≤ d.1 ∧ Asks.Ok d) := Lib.hid (fun d hd => by
      rcases List.mem_cons.1 hd with rfl | hd
      · have h1 := hok (a, b) (by simp)
        exact ⟨h1.1, h1.2.1, hz⟩
      · exact hok d (by simp [hd]))
    have H := int_lits w.heap.size B bv lens8 6 rfl _ hc5 hy5 hB (by decide) (by decide) 3
    have e5 : (w4.setCell ⟨g, 1, none⟩ (.int .i64 z)).heap.size = w4.heap.size := by simp [World.setCell]
    rw [e5] at H
    have HL3 := Lib.hid hl3
    have hsz4 := HB4.out.size
    clear ho4 hst hgs hc4 hy4 hc5 hy5 HO3 hg4 hz hok hlt hl3 hl1 HB3 HB4
    go_wp2_with (fail)
    go_at_call 27
    refine H.mono ?_
    rintro e w6 ⟨n, hn, rfl, hc6, hg6⟩
    have HN := Lib.hid (lens8_in hn)
    have HO6 := Lib.hid (Asks.own_mono (HO5.out.kept hg6 (Or.inr (fun e => by have := (HO5.out.lt _ e).1; omega))) (B' := w.heap.size) (by omega))
    have HB6 := Lib.hid (below_gb HB5.out hg6 HB5.out.size (Nat.le_refl _))
    clear hn hc6 hg6 H e5
    go_wp2
    go_ret2
    exact ⟨_, (a, z) :: r, n, rfl, HL3.out, HOK.out, HN.out.1, HN.out.2, HO6.out, HB6.out⟩
  · have hdec : decide (x = 0) = false := decide_eq_false e0
    have H := int_lits w.heap.size B bv lens8 6 rfl w3 hca hy3 hB (by decide) (by decide) 3
    have HL3 := Lib.hid hl3
    have HOK := Lib.hid hok
    clear hca hy3 hl3 hl1 hok
    go_wp2_with (fail)
    go_at_call 27
    refine H.mono ?_
    rintro e w6 ⟨n, hn, rfl, hc6, hg6⟩
    have HN := Lib.hid (lens8_in hn)
    have HO6 := Lib.hid (Asks.own_mono (HO3.out.kept hg6 (Or.inr (fun e => by have := (HO3.out.lt _ e).1; omega))) (B' := w.heap.size) (by omega))
    have HB6 := Lib.hid (below_gb HB3.out hg6 HB3.out.size (Nat.le_refl _))
    clear hn hc6 hg6 H
    go_wp2
    go_ret2
    exact ⟨_, l, n, rfl, HL3.out, HOK.out, HN.out.1, HN.out.2, HO6.out, HB6.out⟩
end Go.Proofs.YtobhdfkhfmpdlaaGreatDoor.Cf

/-
  PLAIN FACTS of texts that are numbers: what the decimal numeral of a number is worth, and that no text is the numeral of two numbers. No word of the program stands here.
-/
namespace Go.Proofs.YtobhdfkhfmpdlaaGreatDoor.Par
open Go Go.RowKit
set_option linter.unusedVariables false
set_option maxRecDepth 1000000

/-- what the bytes are worth, read as digits behind acc. -/
def stp (a : Nat) (c : UInt8) : Nat := 10 * a + (c.toNat - 48)
def val (acc : Nat) (l : List UInt8) : Nat := l.foldl stp acc
theorem val_nil (a : Nat) : val a [] = a := by unfold val; rw [List.foldl_nil]
theorem val_cons' (a : Nat) (c : UInt8) (r : List UInt8) : val a (c :: r) = val (stp a c) r := by unfold val; rw [List.foldl_cons]
theorem val_cons (a : Nat) (c : UInt8) (r : List UInt8) : val a (c :: r) = val (10 * a + (c.toNat - 48)) r := by rw [val_cons']; unfold stp; rfl
theorem val_one (a : Nat) (c : UInt8) : val a [c] = 10 * a + (c.toNat - 48) := by rw [val_cons', val_nil]; unfold stp; rfl
def isDig (c : UInt8) : Bool := decide (48 ≤ c.toNat ∧ c.toNat ≤ 57)
theorem val_append (l r : List UInt8) (a : Nat) : val a (l ++ r) = val (val a l) r := by unfold val; rw [List.foldl_append]
theorem dig_val (d : Nat) (h : d < 10) : (UInt8.ofNat (48 + d)).toNat = 48 + d := by rw [UInt8.toNat_ofNat']; omega
theorem dec_val (u : Nat) : val 0 (Lib.decDigits u) = u := by
  induction u using Nat.strongRecOn with
  | _ u ih =>
    rw [Lib.decDigits]
    by_cases h : u < 10
    · rw [dif_pos h, val_one, dig_val u h]; omega
    · rw [dif_neg h, val_append, ih (u / 10) (by omega), val_one, dig_val (u % 10) (by omega)]; omega
theorem dec_dig (u : Nat) : ∀ c ∈ Lib.decDigits u, 48 ≤ c.toNat ∧ c.toNat ≤ 57 := by
  induction u using Nat.strongRecOn with
  | _ u ih =>
    rw [Lib.decDigits]
    by_cases h : u < 10
    · rw [dif_pos h]; intro c hc
      rw [List.mem_singleton] at hc; subst hc; rw [dig_val u h]; omega
    · rw [dif_neg h]; intro c hc
      rcases List.mem_append.1 hc with k | k
      · exact ih (u / 10) (by omega) c k
      · rw [List.mem_singleton] at k; subst k
        rw [dig_val (u % 10) (by omega)]; omega
theorem itoa_nat {v : Int} (h : 0 ≤ v) : Lib.itoa v = Lib.decDigits v.toNat := by unfold Lib.itoa; rw [if_neg (by omega)]
theorem itoa_val {v : Int} (h : 0 ≤ v) : (val 0 (Lib.itoa v) : Int) = v := by rw [itoa_nat h, dec_val]; omega
theorem itoa_inj {u v : Int} (hu : 0 ≤ u) (hv : 0 ≤ v) (h : Lib.itoa u = Lib.itoa v) : u = v := by rw [← itoa_val hu, ← itoa_val hv, h]

/-- (v, b) is what ParseInt answers at the bytes l. -/
def PS (l : List UInt8) (v : Int) (b : Bool) : Prop :=
  (b = true ∧ 0 ≤ v ∧ v ≤ 1000000000000 ∧ Lib.itoa v = l) ∨ (b = false ∧ v = 0 ∧ ∀ u : Int, 0 ≤ u → u ≤ 1000000000000 → Lib.itoa u ≠ l)
theorem PS.uniq {l : List UInt8} {v v' : Int} {b b' : Bool} (h : PS l v b) (h' : PS l v' b') : v = v' ∧ b = b' := by
  rcases h with ⟨rfl, h1, h2, h3⟩ | ⟨rfl, rfl, hn⟩ <;> rcases h' with ⟨rfl, k1, k2, k3⟩ | ⟨rfl, rfl, kn⟩
  · exact ⟨itoa_inj h1 k1 (h3.trans k3.symm), rfl⟩
  · exact absurd h3 (kn _ h1 h2)
  · exact absurd k3 (hn _ k1 k2)
  · exact ⟨rfl, rfl⟩

/-- digits of at most 18 places are read by the library's reader as they are worth. -/
theorem uint_val (l : List UInt8) : ∀ (k acc : Nat), (∀ c ∈ l, 48 ≤ c.toNat ∧ c.toNat ≤ 57) → acc < 10 ^ k → k + l.length ≤ 18 → Lib.parseUint10 acc l = .ok (val acc l) := by
  induction l with
  | nil => intro k acc _ _ _; rw [Lib.parseUint10, val_nil]
  | cons c r ih =>
    intro k acc hd ha hl
    have hc := hd c (List.mem_cons_self ..)
    have hl' : r.length + 1 = (c :: r).length := rfl
    have hp : 10 ^ (k + 1) = 10 ^ k * 10 := Nat.pow_succ ..
    have hq : 10 ^ k ≤ 10 ^ 17 := Nat.pow_le_pow_right (by omega) (by omega)
    have hn : 10 * acc + (c.toNat - 48) < 10 ^ (k + 1) := by omega
    have h1 : ¬ 1844674407370955162 ≤ acc := by omega
    have h2 : ¬ 18446744073709551616 ≤ acc * 10 + (c.toNat - 48) := by omega
    have hr := ih (k + 1) _ (fun x hx => hd x (List.mem_cons_of_mem _ hx)) hn (by omega)
    rw [Lib.parseUint10, if_pos hc, if_neg h1, if_neg h2, val_cons, Nat.mul_comm acc 10]
    exact hr
theorem atoi_itoa {u : Int} (h0 : 0 ≤ u) (h1 : u ≤ 1000000000000) : Lib.atoiAll (Lib.itoa u) = .ok u := by
  have hl : (Lib.decDigits u.toNat).length ≤ 13 := by
    rw [Lib.decDigits_length]
    have := Fmt.nDigits_le 13 u.toNat (by omega)
    omega
  have hv := uint_val (Lib.decDigits u.toNat) 0 0 (dec_dig _) (by decide) (by omega)
  rw [dec_val] at hv
  have hd := dec_dig u.toNat
  rw [itoa_nat h0]
  have hne : Lib.decDigits u.toNat ≠ [] := by
    intro e
    have := congrArg List.length e
    rw [Lib.decDigits_length] at this
    have := Lib.nDigits_pos u.toNat
    simp at *; omega
  match hm : Lib.decDigits u.toNat, hne with
  | c :: r, _ =>
    rw [hm] at hv hd
    have hc := hd c (List.mem_cons_self ..)
    rw [Lib.atoiAll_plain c r (by omega) (by omega)]
    unfold Lib.parseMag
    rw [if_neg (by simp), hv]
    show (if 9223372036854775808 ≤ u.toNat then Lib.NumEnd.range else .ok (u.toNat : Int)) = _
    rw [if_neg (by omega), show (u.toNat : Int) = u by omega]

/-- m is what the first k bytes are worth, all of them digits. -/
def Good (s : ByteArray) (k m : Nat) : Prop := m = val 0 (s.data.toList.take k) ∧ m < 10 ^ k ∧ ∀ c ∈ s.data.toList.take k, 48 ≤ c.toNat ∧ c.toNat ≤ 57
theorem good_zero (s : ByteArray) : Good s 0 0 := ⟨by simp [val_nil], by simp, by simp⟩
theorem take_snoc (s : ByteArray) (k : Nat) (h : k < s.size) : s.data.toList.take (k + 1) = s.data.toList.take k ++ [s[k]] := by
  rw [List.take_succ_eq_append_getElem (by simpa using h)]; rfl
theorem good_step {s : ByteArray} {k m : Nat} (h : k < s.size) (g : Good s k m) (h1 : 48 ≤ (s[k].toNat : Int)) (h2 : (s[k].toNat : Int) ≤ 57) : Good s (k + 1) (10 * m + (s[k].toNat - 48)) := by
  obtain ⟨rfl, g2, g3⟩ := g
  refine ⟨?_, ?_, ?_⟩
  · rw [take_snoc s k h, val_append, val_one]
  · have : 10 ^ (k + 1) = 10 ^ k * 10 := Nat.pow_succ ..
    omega
  · rw [take_snoc s k h]
    intro c hc
    rcases List.mem_append.1 hc with hc | hc
    · exact g3 c hc
    · rw [List.mem_singleton] at hc; subst hc; omega
theorem good_bound {s : ByteArray} {k m : Nat} (g : Good s k m) (hk : k ≤ 13) : m < 10000000000000 := by
  have : 10 ^ k ≤ 10 ^ 13 := Nat.pow_le_pow_right (by omega) hk
  have e : (10 : Nat) ^ 13 = 10000000000000 := by decide
  have := g.2.1
  omega
theorem itoa_short {u : Int} (h0 : 0 ≤ u) (h1 : u ≤ 1000000000000) : 1 ≤ (Lib.itoa u).length ∧ (Lib.itoa u).length ≤ 13 := by
  rw [itoa_nat h0, Lib.decDigits_length]
  have := Fmt.nDigits_le 13 u.toNat (by omega)
  have := Lib.nDigits_pos u.toNat
  omega
theorem size_len (s : ByteArray) : s.data.toList.length = s.size := Array.length_toList
theorem ps_short {s : ByteArray} (h : (s.size : Int) < 1 ∨ 13 < (s.size : Int)) : PS s.data.toList 0 false := by
  refine Or.inr ⟨rfl, rfl, fun u h0 h1 e => ?_⟩
  have := itoa_short h0 h1
  rw [e] at this
  have hz := size_len s
  omega
theorem ps_bad {s : ByteArray} {k : Nat} (h : k < s.size) (hc : (s[k].toNat : Int) < 48 ∨ 57 < (s[k].toNat : Int)) : PS s.data.toList 0 false := by
  refine Or.inr ⟨rfl, rfl, fun u h0 h1 e => ?_⟩
  have hm : s[k] ∈ s.data.toList := by
    have : s[k] = s.data.toList[k]'(by simpa using h) := rfl
    rw [this]; exact List.getElem_mem _
  rw [← e, itoa_nat h0] at hm
  have := dec_dig _ _ hm
  omega
theorem good_val {s : ByteArray} {m : Nat} (g : Good s s.size m) : m = val 0 s.data.toList := by
  have hz := size_len s
  have := g.1
  rwa [← hz, List.take_length] at this
theorem ps_great {s : ByteArray} {m : Nat} (g : Good s s.size m) (h : 1000000000000 < (m : Int)) : PS s.data.toList 0 false := by
  refine Or.inr ⟨rfl, rfl, fun u h0 h1 e => ?_⟩
  have := itoa_val h0
  rw [e, ← good_val g] at this
  omega
theorem ps_other {s : ByteArray} {m : Nat} (g : Good s s.size m) (h : Lib.itoa m ≠ s.data.toList) : PS s.data.toList 0 false := by
  refine Or.inr ⟨rfl, rfl, fun u h0 h1 e => ?_⟩
  have := itoa_val h0
  rw [e, ← good_val g] at this
  rw [this] at h
  exact h e
theorem ps_is {s : ByteArray} {m : Nat} (h : (m : Int) ≤ 1000000000000) (e : Lib.itoa m = s.data.toList) : PS s.data.toList m true := Or.inl ⟨rfl, by omega, h, e⟩
end Go.Proofs.YtobhdfkhfmpdlaaGreatDoor.Par

/-
  PLAIN FACTS OF NUMBERS that the contracts of chapter 1 lean on: remainder and quotient rounded down, and Go's own. No word of the program stands here.
-/
namespace Go.Proofs.YtobhdfkhfmpdlaaGreatDoor.NumDiv
open Go Go.RowKit
set_option linter.unusedVariables false
set_option maxRecDepth 1000000

/-- Go's remainder, made not negative; 0 for a divisor out of range. -/
def md (n m : Int) : Int := if 1 ≤ m ∧ m ≤ 1000000000000 then n % m else 0
/-- the quotient rounded down; 0 for a divisor out of range. -/
def fd (n m : Int) : Int := if 1 ≤ m ∧ m ≤ 1000000000000 then n / m else 0

theorem md_out {n m : Int} (h : m < 1 ∨ 1000000000000 < m) : md n m = 0 := by unfold md; rw [if_neg (by omega)]
theorem fd_out {n m : Int} (h : m < 1 ∨ 1000000000000 < m) : fd n m = 0 := by unfold fd; rw [if_neg (by omega)]
theorem md_in {n m : Int} (h : 1 ≤ m) (h2 : m ≤ 1000000000000) : md n m = n % m := by unfold md; rw [if_pos ⟨h, h2⟩]
theorem fd_in {n m : Int} (h : 1 ≤ m) (h2 : m ≤ 1000000000000) : fd n m = n / m := by unfold fd; rw [if_pos ⟨h, h2⟩]

theorem tmod_bd (n m : Int) (h : 1 ≤ m) : -m < n.tmod m ∧ n.tmod m < m := by
  constructor
  · exact Int.lt_tmod_of_pos n (by omega)
  · exact Int.tmod_lt_of_pos n (by omega)
theorem tmod_split (n m : Int) (h : 1 ≤ m) : n.tmod m = n % m ∨ (0 < n % m ∧ n.tmod m = n % m - m) := by
  have e := Int.tmod_eq_emod (a := n) (b := m)
  have p := Int.emod_nonneg n (show m ≠ 0 by omega)
  by_cases c : 0 ≤ n ∨ m ∣ n
  · rw [if_pos c] at e; left; rw [e]; simp
  · rw [if_neg c] at e
    right
    have hz : n % m ≠ 0 := fun z => c (Or.inr (Int.dvd_of_emod_eq_zero z))
    exact ⟨by omega, by omega⟩
theorem tmod_neg_emod {n m : Int} (h : 1 ≤ m) (hr : n.tmod m < 0) : n.tmod m + m = n % m := by
  have p := Int.emod_nonneg n (show m ≠ 0 by omega)
  rcases tmod_split n m h with e | ⟨_, e⟩ <;> omega
theorem tmod_pos_emod {n m : Int} (h : 1 ≤ m) (hr : 0 ≤ n.tmod m) : n.tmod m = n % m := by
  have p := Int.emod_lt_of_pos n (show 0 < m by omega)
  rcases tmod_split n m h with e | ⟨_, e⟩ <;> omega
theorem tdiv_neg {n m : Int} (h : 1 ≤ m) (hr : n.tmod m < 0) : n.tdiv m - 1 = n / m := by
  have e := tmod_neg_emod h hr
  have a := Int.mul_tdiv_add_tmod n m
  have b := Int.mul_ediv_add_emod n m
  have : m * (n.tdiv m - 1) = m * (n / m) := by rw [Int.mul_sub]; omega
  exact Int.eq_of_mul_eq_mul_left (show m ≠ 0 by omega) this
theorem tdiv_pos {n m : Int} (h : 1 ≤ m) (hr : 0 ≤ n.tmod m) : n.tdiv m = n / m := by
  have e := tmod_pos_emod h hr
  have a := Int.mul_tdiv_add_tmod n m
  have b := Int.mul_ediv_add_emod n m
  have : m * (n.tdiv m) = m * (n / m) := by omega
  exact Int.eq_of_mul_eq_mul_left (show m ≠ 0 by omega) this

theorem q_bd' (n m : Int) (h : 1 ≤ m) (a : -9223372036854775808 ≤ n) (b : n ≤ 9223372036854775807) : -9223372036854775808 ≤ n / m ∧ n / m ≤ 9223372036854775807 := by
  constructor
  · refine Int.le_ediv_of_mul_le (by omega) ?_
    have : (-9223372036854775808 : Int) * m ≤ -9223372036854775808 * 1 := Int.mul_le_mul_of_nonpos_left (by omega) h
    omega
  · by_cases z : 0 ≤ n
    · have := Int.ediv_le_self m z; omega
    · have := Int.ediv_neg_of_neg_of_pos (show n < 0 by omega) (show 0 < m by omega); omega
theorem q_bd (n m : Int) (h : 1 ≤ m) (a : -9223372036854775808 ≤ n) (b : n ≤ 9223372036854775807) : -9223372036854775808 ≤ n.tdiv m ∧ n.tdiv m ≤ 9223372036854775807 := by
  have c := q_bd' n m h a b
  by_cases hr : n.tmod m < 0
  · have d := tdiv_neg h hr
    have e : n < 0 := by
      by_cases z : 0 ≤ n
      · have := Int.tmod_nonneg m z; omega
      · omega
    have := Int.ediv_neg_of_neg_of_pos e (show 0 < m by omega)
    omega
  · rw [tdiv_pos h (by omega)]; exact c
theorem ret_int {k : IntKind} {a b : Int} (h : a = b) : Ending.returned (.int k a) = .returned (.int k b) := by rw [h]
end Go.Proofs.YtobhdfkhfmpdlaaGreatDoor.NumDiv

/-
  CONTRACT of the model's small test l1In: whether a number lies between two others; the world stays as it was.
-/
namespace Go.Proofs.YtobhdfkhfmpdlaaGreatDoor.NumDiv
open Go Go.RowKit
set_option linter.unusedVariables false
set_option maxRecDepth 1000000

theorem in_yes (x lo hi : Int) (w : World) (h1 : lo ≤ x) (h2 : x ≤ hi) :
    Calls Tryz.prog 54 #[.int .i64 x, .int .i64 lo, .int .i64 hi] w fun e w' => e = .returned (.bool true) ∧ w = w' := by
  go_enter Tryz.func54, Tryz.ntmps54
  go_wp2
  go_ret
  exact ⟨rfl, rfl⟩
theorem in_no (x lo hi : Int) (w : World) (h : x < lo ∨ hi < x) :
    Calls Tryz.prog 54 #[.int .i64 x, .int .i64 lo, .int .i64 hi] w fun e w' => e = .returned (.bool false) ∧ w = w' := by
  by_cases h1 : lo ≤ x
  · have h2 : ¬ x ≤ hi := by omega
    clear h
    go_enter Tryz.func54, Tryz.ntmps54
    go_wp2
    go_ret
    exact ⟨rfl, rfl⟩
  · clear h
    go_enter Tryz.func54, Tryz.ntmps54
    go_wp2
    go_ret
    exact ⟨rfl, rfl⟩
end Go.Proofs.YtobhdfkhfmpdlaaGreatDoor.NumDiv
