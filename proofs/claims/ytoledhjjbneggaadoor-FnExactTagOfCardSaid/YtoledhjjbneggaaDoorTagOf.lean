/-
  CONTRACTS of both sides' TagOf: the tag of a variant of a version; nothing that was there before is changed.
-/
import Derived.Test.YtoledhjjbneggaaDoorFmtImpl
import Derived.Test.YtoledhjjbneggaaDoorFmtSpec
import Derived.Test.YtoledhjjbneggaaDoorJoinM
import Derived.Test.YtoledhjjbneggaaDoorRec
import Derived.Lib.OthersKept
import Derived.LoopTactic
import Derived.Laws.RangeString
namespace Go.Proofs.YtoledhjjbneggaaDoor.Tgo
open Go Go.RowKit
set_option linter.unusedVariables false

/-- The text of a tag. -/
def tgt (k : Int) (l v : List UInt8) : List UInt8 := Lib.itoa k ++ [47] ++ l ++ [47] ++ v
def TagEnd (k : Int) (l v : List UInt8) (w : World) (e : Ending) (w' : World) : Prop := e = .returned (.agg #[.bool false, .string ⟨(tgt k l v).toArray⟩]) ∧ Below w.heap.size w w'
theorem ret_t {a b : List UInt8} (h : a = b) : Ending.returned (.agg #[.bool false, .string ⟨a.toArray⟩]) = .returned (.agg #[.bool false, .string ⟨b.toArray⟩]) := by rw [h]
/-- a struct of two cells that was laid by a call stays. -/
theorem kept2 {w w1 : World} {T : TypeId} {a b : Value} (hb : Below (w.alloc (.cells #[a, b] T)).heap.size (w.alloc (.cells #[a, b] T)) w1) :
    (w1.cell? ⟨w.heap.size, 0, none⟩ = some a ∧ w1.cell? ⟨w.heap.size, 1, none⟩ = some b) ∧ (w1.frozen? ⟨w.heap.size, 0, none⟩ = false ∧ w1.frozen? ⟨w.heap.size, 1, none⟩ = false) ∧ Below w.heap.size w w1 := by
  refine ⟨⟨?_, ?_⟩, ⟨?_, ?_⟩, ((Below.refl _ _).alloc (Nat.le_refl _) _).trans (hb.mono (by simp))⟩
  · rw [hb.cell (p := ⟨w.heap.size, 0, none⟩) (by simp), World.cell?_alloc_new]; rfl
  · rw [hb.cell (p := ⟨w.heap.size, 1, none⟩) (by simp), World.cell?_alloc_new]; rfl
  · rw [hb.frozen (p := ⟨w.heap.size, 0, none⟩) (by simp)]; simp [go_sem]
  · rw [hb.frozen (p := ⟨w.heap.size, 1, none⟩) (by simp)]; simp [go_sem]

set_option maxHeartbeats 2000000 in
theorem spec_tagof (k : Int) (l v : List UInt8) (w : World) (wk : (Lit.int .i64 k).wf = true) (hl : l.length ≤ 1048576) (hv : v.length ≤ 1048576) :
    Calls Tryd.prog 6 #[.int .i64 k, .string ⟨l.toArray⟩, .string ⟨v.toArray⟩] w (TagEnd k l v w) := by
  have hk : -9223372036854775808 ≤ k ∧ k ≤ 9223372036854775807 := by simp [Lit.wf, IntKind.min, IntKind.max, IntKind.signed, IntKind.bits] at wk; omega
  have HK := Lib.hid (fun w1 => kept2 (w := w) (w1 := w1) (T := 23) (a := .bool false) (b := .string ⟨#[]⟩))
  have HF := Lib.hid (fun W => Fmt.spec_fmt k hk.1 hk.2 W)
  have li := (Fmt.itoa_len (n := k) hk.1 hk.2).2
  have HE : Hid (tgt k l v = Lib.itoa k ++ [47] ++ l ++ [47] ++ v) := Lib.hid rfl
  unfold TagEnd
  generalize tgt k l v = z at HE ⊢
  generalize Lib.itoa k = i at HF li HE
  have a1 := Tx.addtwo i [47] (by simp only [List.length_append, List.length_cons, List.length_nil]; omega)
  have a2 := Tx.addtwo (i ++ [47]) l (by simp only [List.length_append, List.length_cons, List.length_nil]; omega)
  have a3 := Tx.addtwo (i ++ [47] ++ l) [47] (by simp only [List.length_append, List.length_cons, List.length_nil]; omega)
  have a4 := Tx.addtwo (i ++ [47] ++ l ++ [47]) v (by simp only [List.length_append, List.length_cons, List.length_nil]; omega)
  generalize i ++ [47] = i1 at a1 a2 a3 a4 HE
  generalize i1 ++ l = i2 at a2 a3 a4 HE
  generalize i2 ++ [47] = i3 at a3 a4 HE
  generalize i3 ++ v = i4 at a4 HE
  clear hk li
  go_enter Tryd.func6, Tryd.ntmps6
  go_wp2_with (fail)
  go_at_call 18
  refine (HF.out _).mono ?_
  rintro e w1 ⟨rfl, hb1⟩
  obtain ⟨⟨c0, c1⟩, ⟨f0, f1⟩, hb⟩ := HK.out _ hb1
  have HB := Lib.hid hb
  clear hb hb1
  go_wp2
  refine bodyPost_ret (v := .agg #[.bool false, .string ⟨i4.toArray⟩]) (by simp [results, Tryd.results6, go_sem, c0, c1]) rfl ⟨ret_t HE.out.symm, ?_⟩
  exact (HB.out.setCell (Nat.le_refl _) _).setCell (Nat.le_refl _) _

/-- What stands in the text behind so many marks. -/
def pre (i l v : List UInt8) : Nat → List UInt8
  | 0 => []
  | 1 => i
  | 2 => i ++ [47]
  | 3 => i ++ [47] ++ l
  | 4 => i ++ [47] ++ l ++ [47]
  | _ => i ++ [47] ++ l ++ [47] ++ v
def form : ByteArray := ⟨#[118, 47, 108, 47, 117]⟩
/-- The worlds of the loop. -/
def Tw (w : World) (p : Nat) (w' : World) : Prop := w'.heap[w.heap.size + 1]? = some (.stringIter form p) ∧ (w'.cell? ⟨w.heap.size, 0, none⟩ = some (.bool false) ∧ w'.cell? ⟨w.heap.size, 1, none⟩ = some (.string ⟨#[]⟩)) ∧ (w'.frozen? ⟨w.heap.size, 0, none⟩ = false ∧ w'.frozen? ⟨w.heap.size, 1, none⟩ = false) ∧ Below w.heap.size w w'
theorem cell_of_block {a b : World} {g : Nat} (h : a.heap[g]? = b.heap[g]?) (j : Nat) : a.cell? ⟨g, j, none⟩ = b.cell? ⟨g, j, none⟩ := by
  simp only [World.cell?, h]
theorem frozen_of_block {a b : World} {g : Nat} (h : a.heap[g]? = b.heap[g]?) (j : Nat) : a.frozen? ⟨g, j, none⟩ = b.frozen? ⟨g, j, none⟩ := by
  simp only [World.frozen?, h]
theorem tw_next {w w' : World} {p q : Nat} (h : Tw w p w') : Tw w q (w'.iterAt (w.heap.size + 1) form q) := by
  obtain ⟨h0, ⟨c0, c1⟩, ⟨f0, f1⟩, hb⟩ := h
  have ho : (w'.iterAt (w.heap.size + 1) form q).heap[w.heap.size]? = w'.heap[w.heap.size]? := Lib.iterAt_other w' (w.heap.size + 1) w.heap.size form q (by omega)
  exact ⟨Lib.iterAt_heap _ _ _ _ _ h0, ⟨(cell_of_block ho 0).trans c0, (cell_of_block ho 1).trans c1⟩, ⟨(frozen_of_block ho 0).trans f0, (frozen_of_block ho 1).trans f1⟩, Lib.below_iterAt hb (by omega) _ _⟩
theorem tw_below {w w' w'' : World} {p : Nat} (h : Tw w p w') (hb : Below w'.heap.size w' w'') : Tw w p w'' := by
  obtain ⟨h0, ⟨c0, c1⟩, ⟨f0, f1⟩, hw⟩ := h
  have hlt : w.heap.size + 1 < w'.heap.size := (Array.getElem?_eq_some_iff.1 h0).1
  have b0 := hb.block w.heap.size (by omega)
  exact ⟨(hb.block _ hlt).trans h0, ⟨(cell_of_block b0 0).trans c0, (cell_of_block b0 1).trans c1⟩, ⟨(frozen_of_block b0 0).trans f0, (frozen_of_block b0 1).trans f1⟩, Base.then_below hw hb⟩
theorem tw_start (w : World) : Tw w 0 ((w.alloc (.cells #[.bool false, .string ⟨#[]⟩] 23)).iter form 0) := by
  refine ⟨?_, ⟨?_, ?_⟩, ⟨?_, ?_⟩, ?_⟩
  · have := World.iter_heap (w.alloc (.cells #[.bool false, .string ⟨#[]⟩] 23)) form 0
    simpa using this
  all_goals unfold World.iter
  · rw [World.cell?_alloc_lt _ _ _ (by simp), World.cell?_alloc_new]; rfl
  · rw [World.cell?_alloc_lt _ _ _ (by simp), World.cell?_alloc_new]; rfl
  · simp [go_sem]
  · simp [go_sem]
  · exact ((Below.refl _ _).alloc (Nat.le_refl _) _).alloc (by simp) _

theorem form_get (p : Nat) (hp : p < form.size) : (form[p]'hp).toNat < 128 := by
  have h : p < 5 := hp
  have hc : p = 0 ∨ p = 1 ∨ p = 2 ∨ p = 3 ∨ p = 4 := by omega
  rcases hc with rfl | rfl | rfl | rfl | rfl
  · show (118 : UInt8).toNat < 128; decide
  · show (47 : UInt8).toNat < 128; decide
  · show (108 : UInt8).toNat < 128; decide
  · show (47 : UInt8).toNat < 128; decide
  · show (117 : UInt8).toNat < 128; decide
theorem enc47 : Utf8.encode 47 = ⟨[47].toArray⟩ := by rfl
def Add (a b c : List UInt8) : Prop := ∀ W : World, (Op.stringOp .add ⟨a.toArray⟩ ⟨b.toArray⟩).run Tryd.prog W = .ok (.string ⟨c.toArray⟩) W
theorem tw_pos {w w' : World} {p : Nat} (h : Tw w p w') : w'.iterPos (w.heap.size + 1) = p := by simp [World.iterPos, h.1]
set_option maxHeartbeats 4000000 in
set_option maxRecDepth 100000 in
theorem impl_tagof (k : Int) (l v : List UInt8) (w : World) (wk : (Lit.int .i64 k).wf = true) (hl : l.length ≤ 1048576) (hv : v.length ≤ 1048576) (hten : Fmt.Tens w) :
    Calls Tryd.prog 7 #[.int .i64 k, .string ⟨l.toArray⟩, .string ⟨v.toArray⟩] w (TagEnd k l v w) := by
  have hk : -9223372036854775808 ≤ k ∧ k ≤ 9223372036854775807 := by simp [Lit.wf, IntKind.min, IntKind.max, IntKind.signed, IntKind.bits] at wk; omega
  have HF := Lib.hid (fun W (hb : Below w.heap.size w W) => Fmt.impl_fmt k hk.1 hk.2 W (Fmt.tens_below hten hb))
  have li := (Fmt.itoa_len (n := k) hk.1 hk.2).2
  have HS := Lib.hid (tw_start w)
  have HE : Hid (tgt k l v = pre (Lib.itoa k) l v 5) := Lib.hid rfl
  unfold TagEnd
  generalize tgt k l v = z at HE ⊢
  generalize Lib.itoa k = i at HF li HE
  have a0 : Add (pre i l v 0) i (pre i l v 1) := Tx.addtwo [] i (by rw [List.length_nil]; omega)
  have a1 : Add (pre i l v 1) [47] (pre i l v 2) := Tx.addtwo i [47] (by simp only [List.length_append, List.length_cons, List.length_nil]; omega)
  have a2 : Add (pre i l v 2) l (pre i l v 3) := Tx.addtwo (i ++ [47]) l (by simp only [List.length_append, List.length_cons, List.length_nil]; omega)
  have a3 : Add (pre i l v 3) [47] (pre i l v 4) := Tx.addtwo (i ++ [47] ++ l) [47] (by simp only [List.length_append, List.length_cons, List.length_nil]; omega)
  have a4 : Add (pre i l v 4) v (pre i l v 5) := Tx.addtwo (i ++ [47] ++ l ++ [47]) v (by simp only [List.length_append, List.length_cons, List.length_nil]; omega)
  unfold Add at a0 a1 a2 a3 a4
  rw [← enc47] at a1 a3
  have HP0 : Hid (pre i l v 0 = []) := Lib.hid rfl
  clear hk li hten hl hv
  generalize pre i l v = q at *
  go_enter Tryd.func7, Tryd.ntmps7
  go_wp2
  go_loopw [7] (fun s wr => ∃ p : Nat, p ≤ 5 ∧ s = .string ⟨(q p).toArray⟩ ∧ Tw w p wr) (fun _ wr => 5 - wr.iterPos (w.heap.size + 1))
  case atStart => exact ⟨0, by omega, by rw [HP0.out], HS.out⟩
  case round =>
    obtain ⟨p, hp, rfl, htw⟩ := hrel
    have HT := Lib.hid htw
    have hit := htw.1
    have hpos : wr.iterPos (w.heap.size + 1) = p := by simp [World.iterPos, hit]
    have HPOS := Lib.hid hpos
    clear htw hpos
    by_cases h5 : p = 5
    · subst h5
      have hnx : ∀ ty, (Instr.next (.pointer (some ⟨w.heap.size + 1, 0, none⟩)) true ty).run Tryd.prog wr = _ := fun ty => Lib.run_next_end_at wr (w.heap.size + 1) form 5 ty hit (by decide)
      obtain ⟨_, ⟨c0, c1⟩, ⟨f0, f1⟩, hb⟩ := HT.out
      have HB := Lib.hid hb
      clear hb
      go_wp2
      refine bodyPost_ret (v := .agg #[.bool false, .string ⟨(q 5).toArray⟩]) (by simp [results, Tryd.results7, go_sem, c0, c1]) rfl ⟨ret_t HE.out.symm, ?_⟩
      exact (HB.out.setCell (Nat.le_refl _) _).setCell (Nat.le_refl _) _
    · have hlt : p < form.size := by show p < 5; omega
      have HN := Lib.hid (fun q' => tw_next (q := q') HT.out)
      have hnx : ∀ ty, (Instr.next (.pointer (some ⟨w.heap.size + 1, 0, none⟩)) true ty).run Tryd.prog wr = _ := fun ty => Lib.run_next_ascii_at wr (w.heap.size + 1) form p ty hit hlt (form_get p hlt)
      have hc : p = 0 ∨ p = 1 ∨ p = 2 ∨ p = 3 ∨ p = 4 := by omega
      rcases hc with rfl | rfl | rfl | rfl | rfl
      · have hr : ((form[0]'hlt).toNat : Int) = 118 := rfl
        rw [hr] at hnx
        go_wp2_with (fail)
        go_at_call 19
        refine (HF.out _ (HN.out 1).2.2.2).mono ?_
        rintro e w1 ⟨rfl, hb1⟩
        have HT1 := Lib.hid (tw_below (HN.out 1) hb1)
        clear hb1
        go_wp2
        go_roundw
        case rel => exact ⟨1, by omega, rfl, HT1.out⟩
        case measure => rw [tw_pos HT1.out, HPOS.out]; omega
      · have hr : ((form[1]'hlt).toNat : Int) = 47 := rfl
        rw [hr] at hnx
        go_wp2
        go_roundw
        case rel => exact ⟨2, by omega, rfl, HN.out 2⟩
        case measure => rw [tw_pos (HN.out 2), HPOS.out]; omega
      · have hr : ((form[2]'hlt).toNat : Int) = 108 := rfl
        rw [hr] at hnx
        go_wp2
        go_roundw
        case rel => exact ⟨3, by omega, rfl, HN.out 3⟩
        case measure => rw [tw_pos (HN.out 3), HPOS.out]; omega
      · have hr : ((form[3]'hlt).toNat : Int) = 47 := rfl
        rw [hr] at hnx
        go_wp2
        go_roundw
        case rel => exact ⟨4, by omega, rfl, HN.out 4⟩
        case measure => rw [tw_pos (HN.out 4), HPOS.out]; omega
      · have hr : ((form[4]'hlt).toNat : Int) = 117 := rfl
        rw [hr] at hnx
        go_wp2
        go_roundw
        case rel => exact ⟨5, by omega, rfl, HN.out 5⟩
        case measure => rw [tw_pos (HN.out 5), HPOS.out]; omega
end Go.Proofs.YtoledhjjbneggaaDoor.Tgo
