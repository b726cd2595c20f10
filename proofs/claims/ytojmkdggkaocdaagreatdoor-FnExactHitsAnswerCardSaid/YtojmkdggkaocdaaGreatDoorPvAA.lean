/-
  CONTRACTS AND PLAIN FACTS, several texts in one; each says in its own words what it proves.
-/
import Derived.Test.YtojmkdggkaocdaaGreatDoorPvK
import Derived.Test.YtojmkdggkaocdaaGreatDoorPvZ
import Derived.Test.YtojmkdggkaocdaaGreatDoorPvW
import Derived.Test.YtojmkdggkaocdaaGreatDoorPvR
import Derived.Test.YtojmkdggkaocdaaGreatDoorPvU
import Derived.Test.YtojmkdggkaocdaaGreatDoorPvI
import Derived.Deep.RegionHeldLaw
import Derived.Test.YtojmkdggkaocdaaGreatDoorPvM
import Derived.Test.YtojmkdggkaocdaaGreatDoorPvL
import Derived.Test.YtojmkdggkaocdaaGreatDoorPvA

/-
  CONTRACTS of how one purge hits an answer: the program's (Purge).hits and the model's l25Hits; nothing that was there before is changed.
-/
namespace Go.Proofs.YtojmkdggkaocdaaGreatDoor.Hit
open Go Go.RowKit
set_option linter.unusedVariables false
set_option maxRecDepth 1000000

def keysN : List UInt8 := [115, 117, 114, 114, 111, 103, 97, 116, 101, 45, 107, 101, 121]
/-- The purge hits the answer with this key, these fields and this stamp. -/
def hit (f : Pur.T) (key : List UInt8) (l : List Flds.Fld) (q : Int) : Bool := !decide (f.1 ≤ q) && (decide (f.2.1 = 1) || (if f.2.1 = 2 then key == f.2.2 else decide (f.2.1 = 3) && (Spc.spl 32 (Flds.got keysN l)).contains f.2.2))
theorem hit_old {f : Pur.T} {key : List UInt8} {l : List Flds.Fld} {q : Int} (h : f.1 ≤ q) : hit f key l q = false := by unfold hit; rw [decide_eq_true h]; rfl
theorem hit_all {f : Pur.T} {key : List UInt8} {l : List Flds.Fld} {q : Int} (h : ¬ f.1 ≤ q) (h1 : f.2.1 = 1) : hit f key l q = true := by unfold hit; rw [decide_eq_false h, decide_eq_true h1]; rfl
theorem hit_key {f : Pur.T} {key : List UInt8} {l : List Flds.Fld} {q : Int} (h : ¬ f.1 ≤ q) (h1 : f.2.1 = 2) : hit f key l q = (key == f.2.2) := by unfold hit; rw [decide_eq_false h, decide_eq_false (show ¬ f.2.1 = 1 by omega), if_pos h1]; simp
theorem hit_name {f : Pur.T} {key : List UInt8} {l : List Flds.Fld} {q : Int} (h : ¬ f.1 ≤ q) (h1 : f.2.1 = 3) : hit f key l q = (Spc.spl 32 (Flds.got keysN l)).contains f.2.2 := by unfold hit; rw [decide_eq_false h, decide_eq_false (show ¬ f.2.1 = 1 by omega), if_neg (show ¬ f.2.1 = 2 by omega), decide_eq_true h1]; simp
theorem hit_none {f : Pur.T} {key : List UInt8} {l : List Flds.Fld} {q : Int} (h1 : ¬ f.2.1 = 1) (h2 : ¬ f.2.1 = 2) (h3 : ¬ f.2.1 = 3) : hit f key l q = false := by unfold hit; rw [decide_eq_false h1, if_neg h2, decide_eq_false h3]; simp
def BoolEnd (b : Bool) (w : World) (e : Ending) (w' : World) : Prop := e = .returned (.bool b) ∧ Below w.heap.size w w'
theorem ret_b {a b : Bool} (h : a = b) : Ending.returned (.bool a) = .returned (.bool b) := by rw [h]
/-- The library's Split and Contains, one behind the other. -/
theorem split_call (s : List UInt8) (w : World) (hs : s.length ≤ 4194304) (hm : Sh.MxL w) :
    Calls Tryz.prog 157 #[.string ⟨s.toArray⟩, .string ⟨#[32]⟩] w fun e w' => e = .returned (.slice (some ⟨w.heap.size, 0, none⟩) (Spc.spl 32 s).length (Spc.spl 32 s).length) ∧ w' = w.alloc (.cells ((Lib.splitB ⟨#[32]⟩ 0 (Lib.countB ⟨s.toArray⟩ ⟨#[32]⟩) ⟨s.toArray⟩).map Value.string).toArray 9) := by
  obtain ⟨hg, m, hc⟩ := hm
  have hl := Spc.split_len 32 ⟨s.toArray⟩
  have ha := Lib.splitB_all ⟨#[32]⟩ (by decide) 0 _ ⟨s.toArray⟩ rfl
  rw [hl] at ha
  have h := Tryz.strings_Split ⟨s.toArray⟩ ⟨#[32]⟩ m w (by simp [ByteArray.size]; omega) hc (by decide)
  rw [← ha] at h
  exact h
theorem cont_call (s x : List UInt8) (u : World) (hs : s.length ≤ 4194304) :
    Calls Tryz.prog 156 #[.slice (some ⟨u.heap.size, 0, none⟩) (Spc.spl 32 s).length (Spc.spl 32 s).length, .string ⟨x.toArray⟩] (u.alloc (.cells ((Lib.splitB ⟨#[32]⟩ 0 (Lib.countB ⟨s.toArray⟩ ⟨#[32]⟩) ⟨s.toArray⟩).map Value.string).toArray 9))
      fun e w' => e = .returned (.bool ((Spc.spl 32 s).contains x)) ∧ w' = u.alloc (.cells ((Lib.splitB ⟨#[32]⟩ 0 (Lib.countB ⟨s.toArray⟩ ⟨#[32]⟩) ⟨s.toArray⟩).map Value.string).toArray 9) := by
  have hl := Spc.split_len 32 ⟨s.toArray⟩
  have hh := Spc.split_has 32 ⟨s.toArray⟩ ⟨x.toArray⟩
  have hle := Spc.spl_len 32 s
  simp only at hl hh hle
  rw [← hl] at hle
  rw [← hh, ← hl]
  generalize Lib.splitB ⟨#[32]⟩ 0 (Lib.countB ⟨s.toArray⟩ ⟨#[32]⟩) ⟨s.toArray⟩ = zs at *
  have h := Tryz.slices_Contains_string u.heap.size 0 zs.length zs.length zs ⟨x.toArray⟩ (u.alloc (.cells (zs.map Value.string).toArray 9)) (Nat.le_refl _) ?_ ?_
  · rw [List.take_length] at h; exact h
  · first | done | omega
  · intro j hj
    rw [World.cell?_alloc_new]
    simp [hj]
/-- The class of worlds behind the purge's own block. -/
def BoxS (w : World) (f : Pur.T) (u : World) : Prop := u.cell? ⟨w.heap.size, 2, none⟩ = some (.string ⟨f.2.2.toArray⟩) ∧ Hid (Below w.heap.size w u)

set_option maxHeartbeats 4000000 in
theorem impl_names (f : Pur.T) (key : List UInt8) (v : Value) (B : Nat) (l : List Flds.Fld) (w : World) (h : Flds.Holds w B v l) (hB : B ≤ w.heap.size) (hl : Flds.total l ≤ 1048576) (hm : Sh.MxL w) :
    Calls Tryz.prog 122 #[.agg #[.int .i64 f.1, .int .i64 f.2.1, .string ⟨f.2.2.toArray⟩], .string ⟨key.toArray⟩, v] w (BoolEnd (hit f key l (f.1 - 1)) w) := by
  have hgl := Flds.got_len keysN l
  have hb0 : Below w.heap.size w (w.alloc (.cells #[.int .i64 f.1, .int .i64 f.2.1, .string ⟨f.2.2.toArray⟩] 103)) := (Below.refl _ _).alloc (Nat.le_refl _) _
  have HB0 := Lib.hid hb0
  have HK := Lib.hid (Kept.Box.new (w := w) (T := 103) (a := #[.int .i64 f.1, .int .i64 f.2.1, .string ⟨f.2.2.toArray⟩]))
  have HG := Lib.hid (Flds.impl_get v B l keysN _ (Flds.holds_below h (hb0.mono hB)) (Nat.le_trans hB hb0.size) hl)
  have HSP := Lib.hid (fun W (hb : Below w.heap.size w W) => split_call (Flds.got keysN l) W (by omega) (Sh.mxl_below hm hb))
  have HCT := Lib.hid (fun W => cont_call (Flds.got keysN l) f.2.2 W (by omega))
  have H1 := Lib.hid (fun (h : f.1 ≤ f.1 - 1) => hit_old (f := f) (key := key) (l := l) h)
  have H2 := Lib.hid (hit_all (f := f) (key := key) (l := l) (q := f.1 - 1))
  have H3 := Lib.hid (hit_key (f := f) (key := key) (l := l) (q := f.1 - 1))
  have H4 := Lib.hid (hit_name (f := f) (key := key) (l := l) (q := f.1 - 1))
  have H5 := Lib.hid (hit_none (f := f) (key := key) (l := l) (q := f.1 - 1))
  unfold Flds.GetEnd at HG
  unfold BoolEnd
  have hj : Tx.join (Flds.vals keysN l) = Flds.got keysN l := rfl
  rw [hj] at HG
  generalize hit f key l (f.1 - 1) = z at *
  generalize decide (0 < (Flds.vals keysN l).length) = hq at HG
  generalize Flds.got keysN l = s at *
  obtain ⟨x, y, t⟩ := f
  simp only at *
  unfold keysN at HG
  clear h hb0 hm hj hgl hl
  have h1 : ¬ x ≤ x - 1 := by omega
  by_cases h2 : y = 1
  · have HE := Lib.hid (H2.out h1 h2)
    subst h2
    clear H1 H2 H3 H4 H5
    go_enter Tryz.func122, Tryz.ntmps122
    go_wp2
    go_ret
    exact ⟨ret_b HE.out.symm, HB0.out⟩
  by_cases h3 : y = 2
  · have HE := Lib.hid (H3.out h1 h3)
    subst h3
    clear H1 H2 H3 H4 H5 h2
    go_enter Tryz.func122, Tryz.ntmps122
    go_wp2
    go_ret
    exact ⟨ret_b (by rw [HE.out]; first | done | simp), HB0.out⟩
  by_cases h4 : y = 3
  case neg =>
    have HE := Lib.hid (H5.out h2 h3 h4)
    have p1 : (y == 1) = false := by simpa using h2
    have p2 : (y == 2) = false := by simpa using h3
    have p3 : (y == 3) = false := by simpa using h4
    clear H1 H2 H3 H4 H5 h2 h3 h4
    go_enter Tryz.func122, Tryz.ntmps122
    go_wp2
    go_ret
    exact ⟨ret_b HE.out.symm, HB0.out⟩
  have HE := Lib.hid (H4.out h1 h4)
  subst h4
  clear H1 H2 H3 H4 H5 h2 h3
  go_enter Tryz.func122, Tryz.ntmps122
  go_wp2_with (fail)
  go_at_call 62
  refine HG.out.mono ?_
  rintro e w1 ⟨rfl, hb1⟩
  have x2 := (HK.out.below hb1).cell 2 _ rfl
  have hbw := HB0.out.trans (hb1.mono HB0.out.size)
  have HBD := Lib.hid (Rec.below_drew hbw)
  have HSX : Hid (BoxS w (x, 3, t) w1.drew) := Lib.hid ⟨x2, Lib.hid (Rec.below_drew hbw)⟩
  have SA : Hid (∀ (u : World) (o : Obj), BoxS w (x, 3, t) u → BoxS w (x, 3, t) (u.alloc o)) := Lib.hid (fun u o hu => by
    have hlt := Rec.lt_of_cell hu.1
    exact ⟨by rw [World.cell?_alloc_lt _ _ _ hlt]; exact hu.1, Lib.hid (hu.2.out.alloc hu.2.out.size _)⟩)
  unfold BoxS at HSX SA
  simp only at HSX SA
  have HC1 : Hid (Calls Tryz.prog 156 #[.slice (some ⟨w1.heap.size, 0, none⟩) (Spc.spl 32 s).length (Spc.spl 32 s).length, .string ⟨t.toArray⟩] (w1.alloc (.cells ((Lib.splitB ⟨#[32]⟩ 0 (Lib.countB ⟨s.toArray⟩ ⟨#[32]⟩) ⟨s.toArray⟩).map Value.string).toArray 9)).drew fun e w' => e = .returned (.bool ((Spc.spl 32 s).contains t)) ∧ w' = (w1.alloc (.cells ((Lib.splitB ⟨#[32]⟩ 0 (Lib.countB ⟨s.toArray⟩ ⟨#[32]⟩) ⟨s.toArray⟩).map Value.string).toArray 9)).drew) := Lib.hid (HCT.out w1.drew)
  have HBZ : Hid (Below w.heap.size w (w1.alloc (.cells ((Lib.splitB ⟨#[32]⟩ 0 (Lib.countB ⟨s.toArray⟩ ⟨#[32]⟩) ⟨s.toArray⟩).map Value.string).toArray 9)).drew) := Lib.hid (SA.out _ (.cells ((Lib.splitB ⟨#[32]⟩ 0 (Lib.countB ⟨s.toArray⟩ ⟨#[32]⟩) ⟨s.toArray⟩).map Value.string).toArray 9) HSX.out).2.out
  clear hb1 hbw x2
  go_wp2
  go_region_held_law (fun u => u.cell? ⟨w.heap.size, 2, none⟩ = some (.string ⟨t.toArray⟩) ∧ Hid (Below w.heap.size w u))
    (first | exact HSX.out | exact SA.out _ _ HSX.out)
    (first | (go_at_call 157; refine (HSP.out _ HBD.out).mono ?_; rintro e w2 ⟨rfl, rfl⟩) | (go_at_call 156; refine HC1.out.mono ?_; rintro e w3 ⟨rfl, rfl⟩))
  go_wp2
  go_ret
  exact ⟨ret_b (by rw [HE.out]; simp), HBZ.out⟩
theorem hit_any {f : Pur.T} {key : List UInt8} {l : List Flds.Fld} {q : Int} (h : ¬ f.1 ≤ q) : hit f key l q = hit f key l (f.1 - 1) := by unfold hit; rw [decide_eq_false h, decide_eq_false (show ¬ f.1 ≤ f.1 - 1 by omega)]
set_option maxHeartbeats 4000000 in
theorem impl_hits (f : Pur.T) (key : List UInt8) (v : Value) (B : Nat) (l : List Flds.Fld) (q : Int) (w : World) (h : Flds.Holds w B v l) (hB : B ≤ w.heap.size) (hl : Flds.total l ≤ 1048576) (hm : Sh.MxL w) :
    Calls Tryz.prog 75 #[.agg #[.int .i64 f.1, .int .i64 f.2.1, .string ⟨f.2.2.toArray⟩], .string ⟨key.toArray⟩, v, .int .i64 q] w (BoolEnd (hit f key l q) w) := by
  have hb0 : Below w.heap.size w (w.alloc (.cells #[.int .i64 f.1, .int .i64 f.2.1, .string ⟨f.2.2.toArray⟩] 103)) := (Below.refl _ _).alloc (Nat.le_refl _) _
  have HB0 := Lib.hid hb0
  have HN := Lib.hid (impl_names f key v B l _ (Flds.holds_below h (hb0.mono hB)) (Nat.le_trans hB hb0.size) hl (Sh.mxl_below hm hb0))
  have H1 := Lib.hid (fun (h : f.1 ≤ q) => hit_old (f := f) (key := key) (l := l) h)
  have H2 := Lib.hid (fun (h : ¬ f.1 ≤ q) => hit_any (f := f) (key := key) (l := l) h)
  unfold BoolEnd at HN ⊢
  generalize hit f key l q = z at H1 H2 ⊢
  generalize hit f key l (f.1 - 1) = z' at HN H2
  obtain ⟨x, y, t⟩ := f
  simp only at *
  clear h hb0 hm hl
  by_cases h1 : x ≤ q
  · have HE := Lib.hid (H1.out h1)
    have h1' : ¬ q < x := by omega
    clear H1 H2 HN h1
    go_enter Tryz.func75, Tryz.ntmps75
    go_wp2
    go_ret
    exact ⟨ret_b HE.out.symm, HB0.out⟩
  · have HE := Lib.hid (H2.out h1)
    have h1' : q < x := by omega
    clear H1 H2 h1
    go_enter Tryz.func75, Tryz.ntmps75
    go_wp2_with (fail)
    go_at_call 122
    refine HN.out.mono ?_
    rintro e w1 ⟨rfl, hb1⟩
    have HB1 := Lib.hid (HB0.out.trans (hb1.mono HB0.out.size))
    clear hb1
    go_wp2
    go_ret
    exact ⟨ret_b HE.out.symm, HB1.out⟩

theorem hit_rest {f : Pur.T} {key : List UInt8} {l : List Flds.Fld} {q : Int} (h : ¬ f.1 ≤ q) (h1 : ¬ f.2.1 = 1) (h2 : ¬ f.2.1 = 2) : hit f key l q = (decide (f.2.1 = 3) && (Spc.spl 32 (Flds.got keysN l)).contains f.2.2) := by unfold hit; rw [decide_eq_false h, decide_eq_false h1, if_neg h2]; simp
theorem has_more {L : List (List UInt8)} {k : Nat} {t : List UInt8} {d : Bool} (h : k < L.length) (h1 : (d && (L.take k).contains t) = false) (h2 : d = false ∨ L.getD k [] ≠ t) : (d && (L.take (k + 1)).contains t) = false := by
  rcases h2 with rfl | h2
  · rfl
  · cases d
    · rfl
    · rw [Bool.true_and] at h1 ⊢
      have e : L.getD k [] = L[k]'h := by simp [List.getD, h]
      rw [e] at h2
      rw [List.take_succ_eq_append_getElem h]
      have h3 : ¬ t ∈ L.take k := by simpa using h1
      have h4 : ¬ t ∈ L.take k ++ [L[k]'h] := by
        rw [List.mem_append, List.mem_singleton]
        rintro (a | a)
        · exact h3 a
        · exact h2 a.symm
      cases hq : (L.take k ++ [L[k]'h]).contains t
      · rfl
      · exact absurd (List.contains_iff_mem.1 hq) h4
theorem has_hit {L : List (List UInt8)} {k : Nat} {t : List UInt8} (h : k < L.length) (h2 : L.getD k [] = t) : L.contains t = true := by
  have e : L.getD k [] = L[k]'h := by simp [List.getD, h]
  rw [e] at h2; subst h2; simp
def GrowS (w wr u : World) : Prop := Below wr.heap.size wr u ∧ Hid (Below w.heap.size w u)
theorem grow_old {w wr u : World} (h : GrowS w wr u) {b o : Nat} {x : Value} (hc : wr.cell? ⟨b, o, none⟩ = some x) : u.cell? ⟨b, o, none⟩ = some x := by
  rw [h.1.cell (p := ⟨b, o, none⟩) (Rec.lt_of_cell hc)]; exact hc
theorem old_cell {w wr : World} (h : Below w.heap.size w wr) {b o : Nat} {x : Value} (hc : w.cell? ⟨b, o, none⟩ = some x) : wr.cell? ⟨b, o, none⟩ = some x := by
  rw [h.cell (p := ⟨b, o, none⟩) (Rec.lt_of_cell hc)]; exact hc

set_option maxHeartbeats 8000000 in
theorem spec_hits (f : Pur.T) (key : List UInt8) (v : Value) (B : Nat) (l : List Flds.Fld) (q : Int) (w : World) (h : Flds.Holds w B v l) (hB : B ≤ w.heap.size) (hl : Flds.total l ≤ 1048576) :
    Calls Tryz.prog 69 #[.agg #[.int .i64 f.1, .int .i64 f.2.1, .string ⟨f.2.2.toArray⟩], .string ⟨key.toArray⟩, v, .int .i64 q] w (BoolEnd (hit f key l q) w) := by
  have hgl := Flds.got_len keysN l
  have hb0 : Below w.heap.size w (w.alloc (.cells #[.int .i64 f.1, .int .i64 f.2.1, .string ⟨f.2.2.toArray⟩] 103)) := (Below.refl _ _).alloc (Nat.le_refl _) _
  have HB0 := Lib.hid hb0
  have HK := Lib.hid (Kept.Box.new (w := w) (T := 103) (a := #[.int .i64 f.1, .int .i64 f.2.1, .string ⟨f.2.2.toArray⟩]))
  have HG := Lib.hid (Flds.spec_lget v B l keysN _ (Flds.holds_below h (hb0.mono hB)) (by omega))
  have HSP := Lib.hid (fun W => Spc.spec_spl 32 ⟨(Flds.got keysN l).toArray⟩ W (by simp [ByteArray.size]; omega))
  have HLN := Lib.hid (Spc.spl_len 32 (Flds.got keysN l))
  have H1 := Lib.hid (fun (h : f.1 ≤ q) => hit_old (f := f) (key := key) (l := l) h)
  have H2 := Lib.hid (hit_all (f := f) (key := key) (l := l) (q := q))
  have H3 := Lib.hid (hit_key (f := f) (key := key) (l := l) (q := q))
  have H4 := Lib.hid (hit_rest (f := f) (key := key) (l := l) (q := q))
  unfold Flds.GotEnd at HG
  unfold Spc.SplEnd at HSP
  unfold BoolEnd
  simp only at HSP
  rw [show (((32 : UInt8).toNat : Nat) : Int) = 32 from rfl] at HSP
  generalize hit f key l q = z at *
  generalize Flds.got keysN l = s at *
  obtain ⟨x, y, t⟩ := f
  simp only at *
  generalize Spc.spl 32 s = L at *
  have hLs : L.length ≤ 4194304 := by have := HLN.out; omega
  unfold keysN at HG
  clear h hb0 hgl hl HLN
  by_cases h1 : x ≤ q
  · have HE := Lib.hid (H1.out h1)
    clear H1 H2 H3 H4
    go_enter Tryz.func69, Tryz.ntmps69
    go_wp2
    go_ret
    exact ⟨ret_b HE.out.symm, HB0.out⟩
  by_cases h2 : y = 1
  · have HE := Lib.hid (H2.out h1 h2)
    subst h2
    clear H1 H2 H3 H4
    go_enter Tryz.func69, Tryz.ntmps69
    go_wp2
    go_ret
    exact ⟨ret_b HE.out.symm, HB0.out⟩
  by_cases h3 : y = 2
  · have HE := Lib.hid (H3.out h1 h3)
    subst h3
    clear H1 H2 H3 H4 h2
    go_enter Tryz.func69, Tryz.ntmps69
    go_wp2
    go_ret
    exact ⟨ret_b (by rw [HE.out]; first | done | simp), HB0.out⟩
  have HE := Lib.hid (H4.out h1 h2 h3)
  have p1 : (y == 1) = false := by simpa using h2
  have p2 : (y == 2) = false := by simpa using h3
  clear H1 H2 H3 H4 h2 h3
  go_enter Tryz.func69, Tryz.ntmps69
  go_wp2_with (fail)
  go_at_call 58
  refine HG.out.mono ?_
  rintro e w1 ⟨rfl, hb1⟩
  have HR1 := Lib.hid hb1
  clear hb1
  go_wp2_with (fail)
  go_at_call 117
  refine (HSP.out _).mono ?_
  rintro e w2 ⟨vL, rfl, oL, hb2⟩
  have HR2 := Lib.hid (Base.then_below HR1.out hb2)
  have HB2 := Lib.hid (HB0.out.trans (HR2.out.mono HB0.out.size))
  have y1 := (HK.out.below HR2.out).cell 1 _ rfl
  have y2 := (HK.out.below HR2.out).cell 2 _ rfl
  have HHL := Lib.hid (Strs.own_holds oL)
  clear oL hb2
  obtain ⟨aL, cL, rfl, hsh⟩ : ∃ a cap, vL = .slice a L.length cap ∧ (0 < L.length → ∃ b off, a = some ⟨b, off, none⟩ ∧ Strs.At w2 b off L) := by
    rcases HHL.out with ⟨rfl, a, cap, rfl⟩ | ⟨h0, b, off, cap, rfl, hb, _, hc⟩
    · exact ⟨a, cap, rfl, fun h => by simp at h⟩
    · exact ⟨_, cap, rfl, fun _ => ⟨b, off, rfl, hc⟩⟩
  have HSH := Lib.hid hsh
  clear hsh
  have Y1 := Lib.hid y1
  have Y2 := Lib.hid y2
  clear y1 y2
  go_wp2
  go_loopw [10] (fun i wr => ∃ k : Nat, k ≤ L.length ∧ i = .int .i64 (k : Int) ∧ Hid ((decide (y = 3) && (L.take k).contains t) = false) ∧ Below w2.heap.size w2 wr) (fun i _ => L.length - (intOf i).toNat)
  case atStart => exact ⟨0, Nat.zero_le _, rfl, Lib.hid (by simp), Below.refl _ _⟩
  case round =>
    obtain ⟨k, hk, rfl, HN, hb⟩ := hrel
    have HB := Lib.hid hb
    have HBW := Lib.hid (HB2.out.trans (hb.mono HB2.out.size))
    by_cases hlt : k < L.length
    · obtain ⟨b, off, rfl, hat⟩ := HSH.out (by omega)
      have c0 := old_cell hb (hat k hlt)
      have c1 := old_cell hb Y1.out
      have c2 := old_cell hb Y2.out
      have HM := Lib.hid (has_more (t := t) hlt HN.out)
      have HH := Lib.hid (has_hit (t := t) hlt)
      have HSD : Hid (GrowS w wr wr.drew) := Lib.hid ⟨Rec.below_drew (Below.refl _ _), Lib.hid (Rec.below_drew HBW.out)⟩
      have SG : Hid (∀ u, GrowS w wr u → Below w2.heap.size w2 u) := Lib.hid (fun u hu => Base.then_below HB.out hu.1)
      generalize L.getD k [] = nm at c0 HM HH
      unfold Strs.sv at c0
      have f0 : ∀ u : RegS.In (GrowS w wr), u.w.cell? ⟨b, off + k, none⟩ = some (.string ⟨nm.toArray⟩) := fun u => grow_old u.h c0
      have f1 : ∀ u : RegS.In (GrowS w wr), u.w.cell? ⟨w.heap.size, 1, none⟩ = some (.int .i64 y) := fun u => grow_old u.h c1
      have f2 : ∀ u : RegS.In (GrowS w wr), u.w.cell? ⟨w.heap.size, 2, none⟩ = some (.string ⟨t.toArray⟩) := fun u => grow_old u.h c2
      have hki : (k : Int) < (L.length : Int) := by omega
      clear hb hat c0 c1 c2
      by_cases hx : nm = t
      · by_cases h4 : y = 3
        · have HZ : Hid (z = true) := Lib.hid (HE.out.trans (by rw [decide_eq_true h4, HH.out hx]; first | done | rfl))
          subst hx
          subst h4
          clear HM HH HE HN p1 p2
          go_wp2
          refine RegS.region (GrowS w wr) (by kernel_rfl) (by kernel_rfl) HSD.out ?_
          haveI : Nonempty (RegS.In (GrowS w wr)) := ⟨⟨_, HSD.out⟩⟩
          repeat (first | go_big_quiet_step (fail) | quiet_step (fail))
          refine wpQuiet_nil ?_
          intro _ hw'
          obtain ⟨⟨wz, hS⟩, hw''⟩ := hw'
          subst hw''
          have HBB := Lib.hid hS.2.out
          clear hS
          go_wp2
          go_ret
          exact ⟨ret_b HZ.out.symm, HBB.out⟩
        · have HZ := Lib.hid (HM.out (Or.inl (decide_eq_false h4)))
          have p3 : (y == 3) = false := by simpa using h4
          subst hx
          clear HM HH h4
          go_wp2
          refine RegS.region (GrowS w wr) (by kernel_rfl) (by kernel_rfl) HSD.out ?_
          haveI : Nonempty (RegS.In (GrowS w wr)) := ⟨⟨_, HSD.out⟩⟩
          repeat (first | go_big_quiet_step (fail) | quiet_step (fail))
          refine wpQuiet_nil ?_
          intro _ hw'
          obtain ⟨⟨wz, hS⟩, hw''⟩ := hw'
          subst hw''
          have HBB := Lib.hid (SG.out _ hS)
          clear hS
          go_wp2
          go_roundw
          case rel => exact ⟨k + 1, by omega, by go_num, HZ, HBB.out⟩
          case measure => simp [intOf]; omega
      · have HZ := Lib.hid (HM.out (Or.inr hx))
        have p3 : (nm == t) = false := by simpa using hx
        clear HM HH hx
        go_wp2
        refine RegS.region (GrowS w wr) (by kernel_rfl) (by kernel_rfl) HSD.out ?_
        haveI : Nonempty (RegS.In (GrowS w wr)) := ⟨⟨_, HSD.out⟩⟩
        repeat (first | go_big_quiet_step (fail) | quiet_step (fail))
        refine wpQuiet_nil ?_
        intro _ hw'
        obtain ⟨⟨wz, hS⟩, hw''⟩ := hw'
        subst hw''
        have HBB := Lib.hid (SG.out _ hS)
        clear hS
        go_wp2
        go_roundw
        case rel => exact ⟨k + 1, by omega, by go_num, HZ, HBB.out⟩
        case measure => simp [intOf]; omega
    · have HZ : Hid (z = false) := Lib.hid (HE.out.trans (by have h := HN.out; rw [List.take_of_length_le (by omega)] at h; exact h))
      clear hb
      go_wp2
      go_ret
      exact ⟨ret_b HZ.out.symm, HBW.out⟩
end Go.Proofs.YtojmkdggkaocdaaGreatDoor.Hit

/-
  CONTRACTS of ParseInt on both sides as a function of the text.
-/
namespace Go.Proofs.YtojmkdggkaocdaaGreatDoor.Pin
open Go Go.RowKit
set_option linter.unusedVariables false
set_option maxRecDepth 1000000

/-- What ParseInt answers, as a function. -/
def pin (l : List UInt8) : Int × Bool := if Lib.itoa (Par.val 0 l : Int) = l ∧ Par.val 0 l ≤ 1000000000000 then ((Par.val 0 l : Int), true) else (0, false)
theorem ps_pin (l : List UInt8) : Par.PS l (pin l).1 (pin l).2 := by
  unfold pin
  split
  · rename_i h; exact Or.inl ⟨rfl, by simp only; omega, by simp only; omega, h.1⟩
  · rename_i h
    refine Or.inr ⟨rfl, rfl, fun u h0 h1 e => h ?_⟩
    have hv := Par.itoa_val h0
    rw [e] at hv
    rw [hv]; exact ⟨e, by omega⟩
theorem pin_nn (l : List UInt8) : 0 ≤ (pin l).1 ∧ (pin l).1 ≤ 1000000000000 := by
  unfold pin; split
  · simp only; omega
  · simp only; omega
theorem pin_nil : pin [] = (0, false) := by
  rcases ps_pin [] with ⟨h1, h2, h3, h4⟩ | ⟨h1, h2, _⟩
  · rw [Par.itoa_nat h2] at h4
    have := Par.dec_val (pin []).1.toNat
    exfalso
    rw [Lib.decDigits] at h4
    split at h4 <;> simp at h4
  · exact Prod.ext h2 h1
def PinEnd (l : List UInt8) (w : World) (e : Ending) (w' : World) : Prop := e = .returned (.tuple #[.int .i64 (pin l).1, .bool (pin l).2]) ∧ Below w.heap.size w w'
theorem pin_end {l : List UInt8} {w : World} {e : Ending} {w' : World} (h : Par.Parsed l w e w') : PinEnd l w e w' := by
  obtain ⟨v, b, hp, rfl, hb⟩ := h
  obtain ⟨rfl, rfl⟩ := hp.uniq (ps_pin l)
  exact ⟨rfl, hb⟩
theorem spec_pin (l : List UInt8) (w : World) (hl : l.length ≤ 4194304) : Calls Tryz.prog 118 #[.string ⟨l.toArray⟩] w (PinEnd l w) :=
  (Par.spec_parse ⟨l.toArray⟩ w (by simp [ByteArray.size]; omega)).mono fun _ _ h => pin_end h
theorem impl_pin (l : List UInt8) (w : World) (hl : l.length ≤ 4194304) (ht : Fmt.Tens w) (he : Par.Errs w) : Calls Tryz.prog 123 #[.string ⟨l.toArray⟩] w (PinEnd l w) :=
  (Par.impl_parse ⟨l.toArray⟩ w (by simp [ByteArray.size]; omega) ht he).mono fun _ _ h => pin_end h
end Go.Proofs.YtojmkdggkaocdaaGreatDoor.Pin

/-
  CONTRACTS of both sides' StampOf; nothing that was there before is changed.
-/
namespace Go.Proofs.YtojmkdggkaocdaaGreatDoor.Stp
open Go Go.RowKit
set_option linter.unusedVariables false
set_option maxRecDepth 1000000
/-- The name of the field. -/
def stN : List UInt8 := [120, 45, 112, 117, 114, 103, 101]
/-- The stamp of an answer. -/
def stamp (l : List Flds.Fld) : Int := (Pin.pin (Flds.got stN l)).1
def NumEnd (z : Int) (w : World) (e : Ending) (w' : World) : Prop := e = .returned (.int .i64 z) ∧ Below w.heap.size w w'

set_option maxHeartbeats 2000000 in
theorem spec_stp (c : Int) (v : Value) (B : Nat) (l : List Flds.Fld) (b : List UInt8) (w : World) (h : Flds.Holds w B v l) (hB : B ≤ w.heap.size) (hl : Flds.total l ≤ 1048576) :
    Calls Tryz.prog 70 #[.agg #[.int .i64 c, v, .string ⟨b.toArray⟩]] w (NumEnd (stamp l) w) := by
  have HB0 : Hid (Below w.heap.size w (w.alloc (.cells #[.int .i64 c, v, .string ⟨b.toArray⟩] 30))) := Lib.hid ((Below.refl _ _).alloc (Nat.le_refl _) _)
  have hg : (Flds.got stN l).length ≤ 4194304 := by have := Flds.got_len stN l; omega
  have HG := Lib.hid (Flds.spec_lget v B l stN _ (Flds.holds_below h (HB0.out.mono hB)) (by omega))
  have HP := Lib.hid (fun W => Pin.spec_pin (Flds.got stN l) W hg)
  unfold Flds.GotEnd at HG
  unfold Pin.PinEnd at HP
  clear h hl hg
  unfold stamp NumEnd
  generalize Flds.got stN l = t at HG HP ⊢
  generalize Pin.pin t = p at HP ⊢
  unfold stN at HG
  go_enter Tryz.func70, Tryz.ntmps70
  go_wp2_with (fail)
  go_at_call 58
  refine HG.out.mono ?_
  rintro e w1 ⟨rfl, hb1⟩
  have HB1 := Lib.hid (HB0.out.trans (hb1.mono HB0.out.size))
  clear hb1
  go_wp2_with (fail)
  go_at_call 118
  refine (HP.out _).mono ?_
  rintro e w2 ⟨rfl, hb2⟩
  have HB2 := Lib.hid (Base.then_below HB1.out hb2)
  clear hb2
  go_wp2
  go_ret
  exact ⟨rfl, HB2.out⟩

set_option maxHeartbeats 2000000 in
theorem impl_stp (c : Int) (v : Value) (B : Nat) (l : List Flds.Fld) (b : List UInt8) (w : World) (h : Flds.Holds w B v l) (hB : B ≤ w.heap.size) (hl : Flds.total l ≤ 1048576) (ht : Fmt.Tens w) (he : Par.Errs w) :
    Calls Tryz.prog 76 #[.agg #[.int .i64 c, v, .string ⟨b.toArray⟩]] w (NumEnd (stamp l) w) := by
  have HB0 : Hid (Below w.heap.size w (w.alloc (.cells #[.int .i64 c, v, .string ⟨b.toArray⟩] 30))) := Lib.hid ((Below.refl _ _).alloc (Nat.le_refl _) _)
  have hg : (Flds.got stN l).length ≤ 4194304 := by have := Flds.got_len stN l; omega
  have HG := Lib.hid (Flds.impl_get v B l stN _ (Flds.holds_below h (HB0.out.mono hB)) (Nat.le_trans hB HB0.out.size) hl)
  have HP := Lib.hid (fun W (hb : Below w.heap.size w W) => Pin.impl_pin (Flds.got stN l) W hg (Fmt.tens_below ht hb) (Par.errs_below he hb))
  unfold Flds.GetEnd at HG
  unfold Pin.PinEnd at HP
  clear h hl hg ht he
  have hj : Tx.join (Flds.vals stN l) = Flds.got stN l := rfl
  rw [hj] at HG
  clear hj
  unfold stamp NumEnd
  generalize Flds.got stN l = t at HG HP ⊢
  generalize decide (0 < (Flds.vals stN l).length) = q at HG
  generalize Pin.pin t = p at HP ⊢
  unfold stN at HG
  go_enter Tryz.func76, Tryz.ntmps76
  go_wp2_with (fail)
  go_at_call 62
  refine HG.out.mono ?_
  rintro e w1 ⟨rfl, hb1⟩
  have HB1 := Lib.hid (HB0.out.trans (hb1.mono HB0.out.size))
  clear hb1
  go_wp2_with (fail)
  go_at_call 123
  refine (HP.out _ HB1.out).mono ?_
  rintro e w2 ⟨rfl, hb2⟩
  have HB2 := Lib.hid (Base.then_below HB1.out hb2)
  clear hb2
  go_wp2
  go_ret
  exact ⟨rfl, HB2.out⟩
end Go.Proofs.YtojmkdggkaocdaaGreatDoor.Stp
