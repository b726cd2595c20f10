/-
  CONTRACTS of the draws of chapter 2 (DrawHash, DrawHashText): over any slice of bytes they answer a slice of integers of their own, and a number with a text; nothing that was there before is changed.
-/
import Derived.Test.YtembiiddheocgaaCurBytes
import Derived.RegionTactic
import Derived.Deep.RegionWith
namespace Go.Proofs.Ytembiiddheocgaa.Cur
open Go Go.RowKit
set_option linter.unusedVariables false

theorem bytes_from {w w' : World} {B : Nat} {bv : Value} (h : Bytes w B bv) (hb : Below w.heap.size w w') (hB : B ≤ w.heap.size) : Bytes w' B bv := by
  rcases h with h | ⟨b, off, len, cap, f, h1, h2, h3, h4, h5⟩
  · exact Or.inl h
  · refine Or.inr ⟨b, off, len, cap, f, h1, h2, Nat.lt_of_lt_of_le h3 hb.size, h4, fun j hj => ⟨(h5 j hj).1, (h5 j hj).2.1, ?_⟩⟩
    rw [hb.cell (p := ⟨b, off + j, none⟩) h3]
    exact (h5 j hj).2.2
def AllFit (l : List Int) : Prop := ∀ z ∈ l, Fits z
theorem fit_more {l : List Int} {x : Int} (h : AllFit l) (hx : Fits x) : AllFit (l ++ [x]) := by
  intro z hz
  rcases List.mem_append.1 hz with hz | hz
  · exact h z hz
  · simp at hz; subst hz; exact hx
theorem fit_wf {l : List Int} (h : AllFit l) : Nums.Wf l := fun z hz => Go.WalkArith.wf_i64 (h z hz)
/-- How a draw of integers ends: a slice of its own. -/
def DrewInts (m : Nat) (w : World) (e : Ending) (w' : World) : Prop :=
  ∃ g cap l, e = .returned (.slice (some ⟨g, 0, none⟩) l.length cap) ∧ l.length ≤ m ∧ AllFit l ∧ w'.ownsRow w.heap.size 3 1 (.slice (some ⟨g, 0, none⟩) l.length cap) l.length (l.map (Value.int .i64)) ∧ Below w.heap.size w w'

theorem own_weaken {w : World} {base base' : Nat} {e : TypeId} {size n : Nat} {v : Value} {xs : List Value} (h : w.ownsRow base e size v n xs) (hb : base' ≤ base := by omega) : w.ownsRow base' e size v n xs := by
  obtain ⟨hl, hc⟩ := h
  rcases hc with h0 | ⟨g, cap, cur, h1, h2, h3⟩
  · exact ⟨hl, .inl h0⟩
  · exact ⟨hl, .inr ⟨g, cap, cur, h1, Nat.le_trans hb h2, h3⟩⟩
theorem own_shape {w : World} {base : Nat} {e : TypeId} {size n : Nat} {v : Value} {xs : List Value} (h : w.ownsRow base e size v n xs) (hv : v ≠ .slice none 0 0) : ∃ g cap, v = .slice (some ⟨g, 0, none⟩) n cap := by
  rcases h.2 with ⟨rfl, _⟩ | ⟨g, cap, cur, rfl, _⟩
  · exact absurd rfl hv
  · exact ⟨g, cap, rfl⟩

set_option maxHeartbeats 1000000 in
theorem draw_hash (B : Nat) (bv : Value) (w : World) (hby : Bytes w B bv) (hB : B ≤ w.heap.size) :
    Calls Try.prog 8 #[bv] w (DrewInts 5 w) := by
  obtain ⟨i0, hi, hz0, hz1, hz2⟩ := info_parts Nums.info_int
  go_enter Try.func8, Try.ntmps8
  go_wp2_with (fail)
  go_at_call 19
  refine (new_any B bv _ hby).mono ?_
  rintro e w1 ⟨h, rfl, rfl⟩
  have hcu0 := made_cur bv h w
  have hb0 : Below w.heap.size w (w.alloc (.cells #[bv, .int .i64 0, .int .i64 h] 44)) := (Below.refl _ _).alloc (Nat.le_refl _) _
  have hO : ((w.alloc (.cells #[bv, .int .i64 0, .int .i64 h] 44)).alloc (.cells #[] 3)).ownsRow (w.heap.size + 1) 3 1 (.slice (some ⟨w.heap.size + 1, 0, none⟩) 0 0) 0 (([] : List Int).map (Value.int .i64)) := by
    have := World.ownsRow_lit (base := w.heap.size + 1) (size := 1) (e := 3) (w.alloc (.cells #[bv, .int .i64 0, .int .i64 h] 44)) #[] 0 (by simp) (by decide) rfl
    simpa using this
  have hcu1 := cur_alloc hcu0 (.cells #[] 3)
  have hb1 := hb0.alloc hb0.size (.cells #[] 3)
  generalize hW : (w.alloc (.cells #[bv, .int .i64 0, .int .i64 h] 44)) = W1 at *
  have hs1 : W1.heap.size = w.heap.size + 1 := by rw [← hW]; simp
  have HW := Lib.hid hW
  clear hW hcu0 hb0
  go_wp2_with (fail)
  go_at_call 20
  refine (below_any w.heap.size B bv 6 _ hcu1 (bytes_from hby hb1 hB) hB (by omega)).mono ?_
  rintro e w2 ⟨x, hx, rfl, hc2, hg2⟩
  obtain ⟨j, rfl, hj⟩ : ∃ j : Nat, x = (j : Int) ∧ j ≤ 5 := ⟨x.toNat, by have := hx.1; omega, by have := hx.1; have := hx.2; omega⟩
  have hO2 := hO.kept hg2 (Or.inr (by simp [Value.ownBlock]))
  have hb2 := below_gb hb1 hg2 (by simp; omega) (Nat.le_refl _)
  have HH := Lib.hid (And.intro hO2 (And.intro hc2 hb2))
  clear hO hO2 hcu1 hb1 hg2 hc2 hb2 hx
  go_wp2
  go_loopw [4, 5] (fun v i wr => ∃ (k : Nat) (l : List Int), i = .int .i64 k ∧ k + l.length ≤ 5 ∧ AllFit l ∧ v ≠ .slice none 0 0 ∧ wr.ownsRow (w.heap.size + 1) 3 1 v l.length (l.map (Value.int .i64)) ∧ CurAt wr w.heap.size bv ∧ Below w.heap.size w wr)
    (fun _ i _ => (intOf i).toNat)
  case atStart => exact ⟨j, [], rfl, by simp; omega, (fun z hz => by cases hz), (by intro h; cases h), HH.out.1, HH.out.2.1, HH.out.2.2⟩
  case round =>
    clear HH
    obtain ⟨k, l, rfl, hkl, hfit, hnn, hown, hcu, hb⟩ := hrel
    by_cases hlt : 0 < k
    · have hbw := bytes_from hby hb hB
      have HF := Lib.hid hfit
      clear hfit
      have hlen : l.length ≤ 5 := by omega
      go_wp2_with (first
        | (go_at_call 21; refine (one_any w.heap.size B bv _ hcu hbw hB).mono ?_; rintro e w3 ⟨y, hy, rfl, hc3, hg3⟩; have hown3 := hown.kept hg3 (Or.inr (fun e => by have := (hown.lt _ e).1; omega)))
        | (at_builtin; refine wpList_append_own _ rfl _ _ 24 rfl (w.heap.size + 1) 3 i0 (.int .i64 0) 1 8 Try.underlying24 hi hz0 hz1 hz2 rfl (by decide) _ _ _ rfl (hown3.alloc _) ⟨w3.heap.size, 0, none⟩ 1 1 [.int .i64 y] rfl rfl (Nums.news_one _ _ _) (Nums.one_cell _ _) (by unfold maxLen; omega) (by omega) (by have := cur_lt hc3; simp; omega) ?_; intro v4 w4 hown4 hg4 hnn4))
      have hb3 := below_gb hb hg3 hb.size (Nat.le_refl _)
      have R := Nums.push_own hown3 hb3 (by omega) hown4 hg4
      have HR := Lib.hid (And.intro R (cur_step (cur_alloc hc3 _) hg4 (fun k e => by have := (hown3.lt k e).1; omega)))
      have HN := Lib.hid (show v4 ≠ .slice none 0 0 from fun e => by have := (hnn4.1 e).2; omega)
      have HF2 := Lib.hid (fit_more HF.out hy)
      clear R hown hown3 hg3 hown4 hg4 hnn4 hb3 hc3 hcu hb hy hbw hnn
      go_wp2
      go_roundw
      case rel => exact ⟨k - 1, l ++ [y], by go_num, by simp; omega, HF2.out, HN.out, HR.out.1.1, HR.out.2, HR.out.1.2⟩
      case measure => simp [intOf]; omega
    · have HA := Lib.hid (And.intro hfit (And.intro hown hb))
      obtain ⟨g, cap, rfl⟩ := own_shape hown hnn
      clear hfit hown hnn
      go_wp2
      go_ret
      exact ⟨g, cap, l, rfl, by omega, HA.out.1, own_weaken HA.out.2.1, HA.out.2.2⟩

def IntText (m : Nat) (w : World) (e : Ending) (w' : World) : Prop := ∃ (x : Int) (s : ByteArray), Fits x ∧ s.size ≤ m ∧ e = .returned (.tuple #[.int .i64 x, .string s]) ∧ Below w.heap.size w w'
theorem under_nat {m : Nat} {x : Int} (h : Under ((m : Int) + 1) x) : ∃ j : Nat, x = (j : Int) ∧ j ≤ m := ⟨x.toNat, by have := h.1; omega, by have := h.1; have := h.2; omega⟩
set_option maxHeartbeats 1000000 in
theorem draw_text (B : Nat) (bv : Value) (w : World) (hby : Bytes w B bv) (hB : B ≤ w.heap.size) :
    Calls Try.prog 10 #[bv] w (IntText 8 w) := by
  go_enter Try.func10, Try.ntmps10
  go_wp2_with (fail)
  go_at_call 19
  refine (new_any B bv _ hby).mono ?_
  rintro e w1 ⟨h, rfl, rfl⟩
  have hcu := made_cur bv h w
  have hby1 := bytes_alloc hby (.cells #[bv, .int .i64 0, .int .i64 h] 44)
  have hbw : Below w.heap.size w (w.alloc (.cells #[bv, .int .i64 0, .int .i64 h] 44)) := (Below.refl _ _).alloc (Nat.le_refl _) _
  generalize hW : (w.alloc (.cells #[bv, .int .i64 0, .int .i64 h] 44)) = W1 at *
  have hs1 : w.heap.size < W1.heap.size := by rw [← hW]; simp
  have HW := Lib.hid hW
  clear hW
  have hcu' : CurAt W1.drew w.heap.size bv := hcu
  have hby1' : Bytes W1.drew B bv := hby1
  have hbw' : Below w.heap.size w W1.drew := hbw.drew
  clear hcu hby1 hbw
  go_wp2
  go_region_with (first
    | (go_at_call 21; refine (one_any w.heap.size B bv _ hcu' hby1' hB).mono ?_; rintro e w2 ⟨x, hx, rfl, hc2, hg2⟩; have hby2 := bytes_kept hby1' hg2 hB)
    | (go_at_call 20; refine (below_any w.heap.size B bv 9 _ hc2 hby2 hB (by omega)).mono ?_; rintro e w3 ⟨y, hy, rfl, hc3, hg3⟩; have hby3 := bytes_kept hby2 hg3 hB; obtain ⟨j, rfl, hj⟩ := under_nat (m := 8) hy)
    | (go_at_call 23; refine (bytes_any w.heap.size B bv j _ hc3 hby3 hB (by omega)).mono ?_; rintro e w4 ⟨v, l, rfl, hl, hbl, hown, hc4, hg4⟩; obtain ⟨s, hs, hcv⟩ := own_str hown))
  all_goals (have HE := Lib.hid (And.intro hx (And.intro (show s.size ≤ 8 by omega) (below_gb (below_gb (below_gb hbw' hg2 hbw'.size (Nat.le_refl _)) hg3 (Nat.le_trans hbw'.size hg2.size) (Nat.le_refl _)) hg4 (Nat.le_trans (Nat.le_trans hbw'.size hg2.size) hg3.size) (Nat.le_refl _)))))
  all_goals clear hs hcv hown hc4 hg4 hbl hl hc3 hg3 hby3 hc2 hg2 hby2 hy hx
  all_goals go_wp2
  all_goals go_ret2
  all_goals exact ⟨_, _, HE.out.1, HE.out.2.1, rfl, HE.out.2.2⟩
end Go.Proofs.Ytembiiddheocgaa.Cur
