/-
  CONTRACTS of the draws of chapter 4 (l4Some, DrawQuoteText, DrawSplitList, DrawSplitPair): over any slice of bytes they answer texts of a bounded length; nothing that was there before is changed.
-/
import Derived.Test.YtajojhfddedgbaaDoorCurStr
import Derived.Test.YtajojhfddedgbaaDoorCurNew
import Derived.Test.YtajojhfddedgbaaDoorJoinM
namespace Go.Proofs.YtajojhfddedgbaaDoor.Cur
open Go Go.RowKit
set_option linter.unusedVariables false

def somes : List (List UInt8) := [[], [97], [109, 97, 120, 45, 97, 103, 101], [120, 32, 121], [34, 113, 34], [34, 97, 44, 32, 98, 34], [34, 92, 34, 34], [34, 111, 112, 101, 110], [32, 98, 32], [9, 99], [107, 61, 118], [107, 61, 34, 97, 44, 98, 34], [75, 32, 61, 32, 55], [61], [195, 169], [65, 45, 98]]
theorem somes_len (x : List UInt8) (h : x ∈ somes) : x.length ≤ 8 := by
  have hall : somes.all (fun x => decide (x.length ≤ 8)) = true := by decide
  have := List.all_eq_true.1 hall x h
  simpa using this
def commas : List (List UInt8) := [[44], [44, 32], [32, 44], [44, 44], []]
theorem commas_len (x : List UInt8) (h : x ∈ commas) : x.length ≤ 8 := by
  have hall : commas.all (fun x => decide (x.length ≤ 8)) = true := by decide
  have := List.all_eq_true.1 hall x h
  simpa using this

theorem some_any (c B : Nat) (bv : Value) (w : World) (hcur : CurAt w c bv) (hby : Bytes w B bv) (hB : B ≤ c) :
    Calls Tryd.prog 26 #[.pointer (some ⟨c, 0, none⟩)] w (DrawnS (fun x => x.length ≤ 8) c bv w) := by
  have H := str_lits c B bv somes 16 rfl w hcur hby hB (by decide) (by decide) 9
  go_enter Tryd.func26, Tryd.ntmps26
  go_wp2_with (fail)
  go_at_call 30
  refine H.mono ?_
  rintro e w1 ⟨x, hx, rfl, hc1, hg1⟩
  have HX := Lib.hid (somes_len x hx)
  clear hx
  go_wp2
  go_ret
  exact ⟨_, HX.out, rfl, hc1, hg1⟩

/-- How a law's draw of a text ends. -/
def OneText (m : Nat) (w : World) (e : Ending) (w' : World) : Prop := ∃ x : List UInt8, x.length ≤ m ∧ e = .returned (.string ⟨x.toArray⟩) ∧ Below w.heap.size w w'

theorem draw_pair (B : Nat) (bv : Value) (w : World) (hby : Bytes w B bv) (hB : B ≤ w.heap.size) :
    Calls Tryd.prog 16 #[bv] w (OneText 8 w) := by
  go_enter Tryd.func16, Tryd.ntmps16
  go_wp2_with (fail)
  go_at_call 25
  refine (new_any B bv _ hby).mono ?_
  rintro e w1 ⟨h, rfl, rfl⟩
  go_wp2_with (fail)
  go_at_call 26
  refine (some_any w.heap.size B bv _ (made_cur bv h w) (bytes_alloc hby _) hB).mono ?_
  rintro e w2 ⟨x, hx, rfl, hc2, hg2⟩
  have HE := Lib.hid (And.intro hx (below_gb ((Below.refl _ _).alloc (Nat.le_refl _) _) hg2 (by simp) (Nat.le_refl _)))
  clear hx hc2 hg2
  go_wp2
  go_ret
  exact ⟨_, HE.out.1, rfl, HE.out.2⟩

theorem draw_quote (B : Nat) (bv : Value) (w : World) (hby : Bytes w B bv) (hB : B ≤ w.heap.size) :
    Calls Tryd.prog 8 #[bv] w (OneText 16 w) := by
  go_enter Tryd.func8, Tryd.ntmps8
  go_wp2_with (fail)
  go_at_call 25
  refine (new_any B bv _ hby).mono ?_
  rintro e w1 ⟨h, rfl, rfl⟩
  go_wp2_with (fail)
  go_at_call 26
  refine (some_any w.heap.size B bv _ (made_cur bv h w) (bytes_alloc hby _) hB).mono ?_
  rintro e w2 ⟨x, hx, rfl, hc2, hg2⟩
  have hby2 := bytes_kept (bytes_alloc hby _) hg2 hB
  have hs2 := hg2.size
  have HB := Lib.hid (below_gb ((Below.refl _ _).alloc (Nat.le_refl _) _) hg2 (by simp) (Nat.le_refl _))
  clear hg2
  go_wp2_with (fail)
  go_at_call 26
  refine (some_any w.heap.size B bv _ hc2 hby2 hB).mono ?_
  rintro e w3 ⟨y, hy, rfl, hc3, hg3⟩
  have hadd := Tx.addtwo x y (by omega)
  have HE := Lib.hid (And.intro (show (x ++ y).length ≤ 16 by rw [List.length_append]; omega) (below_gb HB.out hg3 HB.out.size (Nat.le_refl _)))
  clear hx hy hc2 hc3 hg3 hby2
  go_wp2
  go_ret
  exact ⟨_, HE.out.1, rfl, HE.out.2⟩

set_option maxHeartbeats 1000000 in
theorem draw_list (B : Nat) (bv : Value) (w : World) (hby : Bytes w B bv) (hB : B ≤ w.heap.size) :
    Calls Tryd.prog 12 #[bv] w (OneText 96 w) := by
  go_enter Tryd.func12, Tryd.ntmps12
  go_wp2_with (fail)
  go_at_call 25
  refine (new_any B bv _ hby).mono ?_
  rintro e w1 ⟨h, rfl, rfl⟩
  have hcu := made_cur bv h w
  have hby1 := bytes_alloc hby (.cells #[bv, .int .i64 0, .int .i64 h] 50)
  have hbw : Below w.heap.size w (w.alloc (.cells #[bv, .int .i64 0, .int .i64 h] 50)) := (Below.refl _ _).alloc (Nat.le_refl _) _
  generalize hW : (w.alloc (.cells #[bv, .int .i64 0, .int .i64 h] 50)) = W1 at *
  have hs1 : w.heap.size < W1.heap.size := by rw [← hW]; simp
  clear hW
  go_wp2_with (fail)
  go_at_call 29
  refine (below_any w.heap.size B bv 6 _ hcu hby1 hB (by omega)).mono ?_
  rintro e w2 ⟨x, hx, rfl, hc2, hg2⟩
  obtain ⟨n, rfl, hn⟩ : ∃ n : Nat, x = (n : Int) ∧ n ≤ 5 := ⟨x.toNat, by have := hx.1; omega, by have := hx.1; have := hx.2; omega⟩
  have HI := Lib.hid (And.intro hc2 (And.intro (bytes_kept hby1 hg2 hB) (below_gb hbw hg2 hbw.size (Nat.le_refl _))))
  clear hx hc2 hg2 hby1 hbw hcu hs1
  go_wp2
  go_loopw [4, 5] (fun s i wr => ∃ (k : Nat) (l : List UInt8), i = .int .i64 (k : Int) ∧ s = .string ⟨l.toArray⟩ ∧ l.length + 16 * k ≤ 96 ∧ CurAt wr w.heap.size bv ∧ Bytes wr B bv ∧ Below w.heap.size w wr) (fun _ i _ => (intOf i).toNat)
  case atStart => exact ⟨n, [], rfl, rfl, by simp; omega, HI.out.1, HI.out.2.1, HI.out.2.2⟩
  case round =>
    clear HI
    obtain ⟨k, l, rfl, rfl, hl, hcu, hby2, hb⟩ := hrel
    by_cases hz : 0 < k
    · have hzi : 0 < (k : Int) := by omega
      have hbs := hb.size
      have HB := Lib.hid hb
      clear hb
      go_wp2_with (fail)
      go_at_call 26
      refine (some_any w.heap.size B bv _ hcu hby2 hB).mono ?_
      rintro e w3 ⟨y, hy, rfl, hc3, hg3⟩
      have hby3 := bytes_kept hby2 hg3 hB
      have HB3 := Lib.hid (below_gb HB.out hg3 HB.out.size (Nat.le_refl _))
      have hadd1 := Tx.addtwo l y (by omega)
      have H := str_lits w.heap.size B bv commas 5 rfl w3 hc3 hby3 hB (by decide) (by decide) 9
      clear hg3 hcu hby2
      go_wp2_with (fail)
      go_at_call 30
      refine H.mono ?_
      rintro e w4 ⟨z, hz', rfl, hc4, hg4⟩
      have hz8 := commas_len z hz'
      have hadd2 := Tx.addtwo (l ++ y) z (by rw [List.length_append]; omega)
      have HE := Lib.hid (And.intro (show (l ++ y ++ z).length + 16 * (k - 1) ≤ 96 by rw [List.length_append, List.length_append]; omega) (And.intro hc4 (And.intro (bytes_kept hby3 hg4 hB) (below_gb HB3.out hg4 HB3.out.size (Nat.le_refl _)))))
      have HK := Lib.hid (show (k : Int) - 1 = ((k - 1 : Nat) : Int) by omega)
      clear hz' hc3 hby3 hc4 hg4 H hz8 hadd1
      go_wp2
      go_roundw
      case rel => exact ⟨k - 1, l ++ y ++ z, by rw [← HK.out], by simp, HE.out.1, HE.out.2.1, HE.out.2.2.1, HE.out.2.2.2⟩
      case measure => simp [intOf]; omega
    · have hzi : ¬ 0 < (k : Int) := by omega
      have HE := Lib.hid (And.intro (show l.length ≤ 96 by omega) hb)
      clear hcu hby2 hb hl
      go_wp2
      go_ret
      exact ⟨_, HE.out.1, rfl, HE.out.2⟩
end Go.Proofs.YtajojhfddedgbaaDoor.Cur
