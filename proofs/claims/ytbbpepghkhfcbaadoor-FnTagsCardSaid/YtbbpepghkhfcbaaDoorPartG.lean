/-
  CONTRACTS AND PLAIN FACTS, several texts in one; each says in its own words what it proves.
-/
import Derived.Test.YtbbpepghkhfcbaaDoorPartE
import Derived.Test.YtbbpepghkhfcbaaDoorPartF
import Derived.LoopTactic
import Derived.Outline
import Derived.Test.YtbbpepghkhfcbaaDoorPartD
set_option linter.unusedSimpArgs false
set_option linter.unusedVariables false

/-
  CONTRACTS of both sides' IsTag, FormatTag, StrongSame and WeakSame; nothing that was there before is changed.
-/
namespace Go.Proofs.YtbbpepghkhfcbaaDoor.Tgs
open Go Go.RowKit
set_option linter.unusedVariables false
set_option maxRecDepth 1000000

def BoolEnd (b : Bool) (w : World) (e : Ending) (w' : World) : Prop := e = .returned (.bool b) ∧ Below w.heap.size w w'
def TxtEnd (t : List UInt8) (w : World) (e : Ending) (w' : World) : Prop := e = .returned (.string ⟨t.toArray⟩) ∧ Below w.heap.size w w'
theorem ret_bool {a b : Bool} (h : a = b) : Ending.returned (.bool a) = .returned (.bool b) := by rw [h]
theorem ret_txt {a b : List UInt8} (h : a = b) : Ending.returned (.string ⟨a.toArray⟩) = .returned (.string ⟨b.toArray⟩) := by rw [h]

set_option maxHeartbeats 1000000 in
theorem spec_is_s (x : Bool) (s : ByteArray) (w : World) (hs : s.size ≤ 1048576) :
    Calls Tryd.prog 12 #[.agg #[.bool x, .string s]] w (BoolEnd (okt s.data.toList) w) := by
  have HB : Hid (Below w.heap.size w (w.alloc (.cells #[.bool x, .string s] 25))) := Lib.hid ((Below.refl _ _).alloc (Nat.le_refl _) _)
  go_enter Tryd.func12, Tryd.ntmps12
  go_wp2
  go_loop [3] (fun i => ∃ k : Nat, k ≤ s.size ∧ i = .int .i64 k ∧ (s.data.toList.take k).all tgc = true) (fun i => s.size - (intOf i).toNat)
  case atStart => exact ⟨0, Nat.zero_le _, rfl, rfl⟩
  case round =>
    obtain ⟨k, hk, rfl, ha⟩ := hrel
    have HA := Lib.hid ha
    clear ha
    by_cases hlt : k < s.size
    · have hb255 : (s[k].toNat : Int) ≤ 255 := by have := s[k].toNat_lt; omega
      rcases hc : tgc s[k] with _ | _
      · have HT := Lib.hid (okt_bad hlt hc)
        rcases tgc_no hc with q1 | ⟨q1, q2⟩
        · have HQ := Lib.hid q1
          clear hc q1
          go_wp2_with (go_at_call 26; (with_reducible refine (NumDiv.in_no _ _ _ _ HQ.out).mono ?_); rintro e w' ⟨rfl, rfl⟩)
          go_ret
          exact ⟨ret_bool HT.out.symm, HB.out⟩
        · obtain ⟨q3, q4⟩ := q1
          have q5 : ((s[k].toNat : Int) == 34) = true := by rw [q2]; rfl
          clear hc q2
          go_wp2_with (go_at_call 26; (with_reducible refine (NumDiv.in_yes _ _ _ _ q3 q4).mono ?_); rintro e w' ⟨rfl, rfl⟩)
          go_ret
          exact ⟨ret_bool HT.out.symm, HB.out⟩
      · have HT := Lib.hid (tgc_more hlt HA.out hc)
        obtain ⟨⟨q1, q2⟩, q3⟩ := tgc_yes hc
        have q4 : ((s[k].toNat : Int) == 34) = false := by simpa using q3
        clear hc q3
        go_wp2_with (go_at_call 26; (with_reducible refine (NumDiv.in_yes _ _ _ _ q1 q2).mono ?_); rintro e w' ⟨rfl, rfl⟩)
        go_round
        case rel => exact ⟨k + 1, by omega, by go_num, HT.out⟩
        case measure => simp [intOf]; omega
    · have HT := Lib.hid (okt_all (show k = s.size by omega) HA.out)
      go_wp2
      go_ret
      exact ⟨ret_bool HT.out.symm, HB.out⟩

set_option maxHeartbeats 1000000 in
theorem impl_is_s (x : Bool) (s : ByteArray) (w : World) (hs : s.size ≤ 1048576) :
    Calls Tryd.prog 11 #[.agg #[.bool x, .string s]] w (BoolEnd (okt s.data.toList) w) := by
  have HB : Hid (Below w.heap.size w (w.alloc (.cells #[.bool x, .string s] 25))) := Lib.hid ((Below.refl _ _).alloc (Nat.le_refl _) _)
  by_cases h40 : 40 < s.size
  · have HT := Lib.hid (okt_long h40)
    go_enter Tryd.func11, Tryd.ntmps11
    go_wp2
    go_ret
    exact ⟨ret_bool HT.out.symm, HB.out⟩
  · go_enter Tryd.func11, Tryd.ntmps11
    go_wp2
    go_loop [3, 11] (fun j i => ∃ k : Nat, k ≤ s.size ∧ i = .int .i64 k ∧ (s.data.toList.take k).all tgc = true) (fun _ i => s.size - (intOf i).toNat)
    case atStart => exact ⟨0, Nat.zero_le _, rfl, rfl⟩
    case round =>
      obtain ⟨k, hk, rfl, ha⟩ := hrel
      have HA := Lib.hid ha
      clear ha
      by_cases hlt : k < s.size
      · have hb255 : (s[k].toNat : Int) ≤ 255 := by have := s[k].toNat_lt; omega
        rcases hc : tgc s[k] with _ | _
        · have HT := Lib.hid (okt_bad hlt hc)
          rcases tgc_no hc with (q1 | q1) | ⟨q1, q2⟩
          · have q2 : (s[k].toNat : Int) ≤ 32 := by omega
            clear hc q1
            go_wp2
            go_ret
            exact ⟨ret_bool HT.out.symm, HB.out⟩
          · have q2 : ¬ (s[k].toNat : Int) ≤ 32 := by omega
            clear hc
            go_wp2
            go_ret
            exact ⟨ret_bool HT.out.symm, HB.out⟩
          · have q3 : ¬ (s[k].toNat : Int) ≤ 32 := by omega
            have q4 : ¬ 126 < (s[k].toNat : Int) := by omega
            have q5 : ((s[k].toNat : Int) == 34) = true := by rw [q2]; rfl
            clear hc q1 q2
            go_wp2
            go_ret
            exact ⟨ret_bool HT.out.symm, HB.out⟩
        · have HT := Lib.hid (tgc_more hlt HA.out hc)
          obtain ⟨⟨q1, q2⟩, q3⟩ := tgc_yes hc
          have q4 : ((s[k].toNat : Int) == 34) = false := by simpa using q3
          have q5 : ¬ (s[k].toNat : Int) ≤ 32 := by omega
          have q6 : ¬ 126 < (s[k].toNat : Int) := by omega
          clear hc q3 q1 q2
          go_wp2
          go_round
          case rel => exact ⟨k + 1, by omega, by go_num, HT.out⟩
          case measure => simp [intOf]; omega
      · have HT := Lib.hid (okt_all (show k = s.size by omega) HA.out)
        go_wp2
        go_ret
        exact ⟨ret_bool (by rw [HT.out]; symm; simp; omega), HB.out⟩
theorem bsz (y : List UInt8) : (⟨y.toArray⟩ : ByteArray).size = y.length := by simp [ByteArray.size]
theorem spec_is (x : Bool) (y : List UInt8) (w : World) (hs : y.length ≤ 1048576) :
    Calls Tryd.prog 12 #[.agg #[.bool x, .string ⟨y.toArray⟩]] w (BoolEnd (okt y) w) := spec_is_s x ⟨y.toArray⟩ w (by rw [bsz]; exact hs)
theorem impl_is (x : Bool) (y : List UInt8) (w : World) (hs : y.length ≤ 1048576) :
    Calls Tryd.prog 11 #[.agg #[.bool x, .string ⟨y.toArray⟩]] w (BoolEnd (okt y) w) := impl_is_s x ⟨y.toArray⟩ w (by rw [bsz]; exact hs)

theorem box_after {w w1 : World} {x : Bool} {y : List UInt8} (h : Below (w.alloc (.cells #[.bool x, .string ⟨y.toArray⟩] 25)).heap.size (w.alloc (.cells #[.bool x, .string ⟨y.toArray⟩] 25)) w1) :
    (w1.cell? ⟨w.heap.size, 0, none⟩ = some (.bool x) ∧ w1.cell? ⟨w.heap.size, 1, none⟩ = some (.string ⟨y.toArray⟩)) ∧ Below w.heap.size w w1 := by
  refine ⟨⟨?_, ?_⟩, ((Below.refl _ _).alloc (Nat.le_refl _) _).trans (h.mono (by simp))⟩
  · rw [h.cell (p := ⟨w.heap.size, 0, none⟩) (by simp), World.cell?_alloc_new]; rfl
  · rw [h.cell (p := ⟨w.heap.size, 1, none⟩) (by simp), World.cell?_alloc_new]; rfl

set_option maxHeartbeats 1000000 in
theorem spec_fmt (x : Bool) (y : List UInt8) (w : World) (hs : y.length ≤ 1048576) :
    Calls Tryd.prog 22 #[.agg #[.bool x, .string ⟨y.toArray⟩]] w (TxtEnd (ftag (x, y)) w) := by
  have HI := Lib.hid (fun W => spec_is x y W hs)
  have HX := Lib.hid (fun w1 => box_after (w := w) (w1 := w1) (x := x) (y := y))
  cases hz : okt y with
  | false =>
    have HE := Lib.hid (ftag_no (x := x) hz)
    rw [hz] at HI
    clear hz
    go_enter Tryd.func22, Tryd.ntmps22
    go_wp2_with (fail)
    go_at_call 12
    refine (HI.out _).mono ?_
    rintro e w1 ⟨rfl, hb⟩
    have HXX := Lib.hid (HX.out _ hb)
    clear hb
    go_wp2
    go_ret
    exact ⟨ret_txt HE.out.symm, HXX.out.2⟩
  | true =>
    rw [hz] at HI
    cases x with
    | true =>
      have HE := Lib.hid (ftag_weak hz)
      have a1 := Tx.addtwo [87, 47, 34] y (by simp only [List.length_cons, List.length_nil]; omega)
      have a2 := Tx.addtwo ([87, 47, 34] ++ y) [34] (by simp only [List.length_append, List.length_cons, List.length_nil]; omega)
      generalize [87, 47, 34] ++ y = y1 at a1 a2 HE
      generalize y1 ++ [34] = y2 at a2 HE
      clear hz
      go_enter Tryd.func22, Tryd.ntmps22
      go_wp2_with (fail)
      go_at_call 12
      refine (HI.out _).mono ?_
      rintro e w1 ⟨rfl, hb⟩
      obtain ⟨⟨c0, c1⟩, hb1⟩ := HX.out _ hb
      have HXX := Lib.hid hb1
      clear hb hb1
      go_wp2
      go_ret
      exact ⟨ret_txt HE.out.symm, HXX.out⟩
    | false =>
      have HE := Lib.hid (ftag_strong hz)
      have a1 := Tx.addtwo [34] y (by simp only [List.length_cons, List.length_nil]; omega)
      have a2 := Tx.addtwo ([34] ++ y) [34] (by simp only [List.length_append, List.length_cons, List.length_nil]; omega)
      generalize [34] ++ y = y1 at a1 a2 HE
      generalize y1 ++ [34] = y2 at a2 HE
      clear hz
      go_enter Tryd.func22, Tryd.ntmps22
      go_wp2_with (fail)
      go_at_call 12
      refine (HI.out _).mono ?_
      rintro e w1 ⟨rfl, hb⟩
      obtain ⟨⟨c0, c1⟩, hb1⟩ := HX.out _ hb
      have HXX := Lib.hid hb1
      clear hb hb1
      go_wp2
      go_ret
      exact ⟨ret_txt HE.out.symm, HXX.out⟩

set_option maxHeartbeats 1000000 in
theorem impl_fmt (x : Bool) (y : List UInt8) (w : World) (hs : y.length ≤ 1048576) :
    Calls Tryd.prog 7 #[.agg #[.bool x, .string ⟨y.toArray⟩]] w (TxtEnd (ftag (x, y)) w) := by
  have HI := Lib.hid (fun W => impl_is x y W hs)
  have HX := Lib.hid (fun w1 => box_after (w := w) (w1 := w1) (x := x) (y := y))
  cases hz : okt y with
  | false =>
    have HE := Lib.hid (ftag_no (x := x) hz)
    rw [hz] at HI
    clear hz
    go_enter Tryd.func7, Tryd.ntmps7
    go_wp2_with (fail)
    go_at_call 11
    refine (HI.out _).mono ?_
    rintro e w1 ⟨rfl, hb⟩
    have HXX := Lib.hid (HX.out _ hb)
    clear hb
    go_wp2
    go_ret
    exact ⟨ret_txt HE.out.symm, HXX.out.2⟩
  | true =>
    rw [hz] at HI
    cases x with
    | true =>
      have HE := Lib.hid (show [87, 47] ++ ([34] ++ y ++ [34]) = ftag (true, y) by rw [ftag_weak hz]; simp)
      have a1 := Tx.addtwo [34] y (by simp only [List.length_cons, List.length_nil]; omega)
      have a2 := Tx.addtwo ([34] ++ y) [34] (by simp only [List.length_append, List.length_cons, List.length_nil]; omega)
      have a3 := Tx.addtwo [87, 47] ([34] ++ y ++ [34]) (by simp only [List.length_append, List.length_cons, List.length_nil]; omega)
      generalize [34] ++ y = y1 at a1 a2 a3 HE
      generalize y1 ++ [34] = y2 at a2 a3 HE
      generalize [87, 47] ++ y2 = y3 at a3 HE
      clear hz
      go_enter Tryd.func7, Tryd.ntmps7
      go_wp2_with (fail)
      go_at_call 11
      refine (HI.out _).mono ?_
      rintro e w1 ⟨rfl, hb⟩
      obtain ⟨⟨c0, c1⟩, hb1⟩ := HX.out _ hb
      have HXX := Lib.hid hb1
      clear hb hb1
      go_wp2
      go_ret
      exact ⟨ret_txt HE.out, HXX.out⟩
    | false =>
      have HE := Lib.hid (ftag_strong hz)
      have a1 := Tx.addtwo [34] y (by simp only [List.length_cons, List.length_nil]; omega)
      have a2 := Tx.addtwo ([34] ++ y) [34] (by simp only [List.length_append, List.length_cons, List.length_nil]; omega)
      generalize [34] ++ y = y1 at a1 a2 HE
      generalize y1 ++ [34] = y2 at a2 HE
      clear hz
      go_enter Tryd.func7, Tryd.ntmps7
      go_wp2_with (fail)
      go_at_call 11
      refine (HI.out _).mono ?_
      rintro e w1 ⟨rfl, hb⟩
      obtain ⟨⟨c0, c1⟩, hb1⟩ := HX.out _ hb
      have HXX := Lib.hid hb1
      clear hb hb1
      go_wp2
      go_ret
      exact ⟨ret_txt HE.out.symm, HXX.out⟩
end Go.Proofs.YtbbpepghkhfcbaaDoor.Tgs

/-
  CONTRACTS of the draws of chapter 7 (l1Once, l7Draw, DrawFormatTag, DrawStrongSame, DrawParseTagList): over any slice of bytes they answer tags and texts of a bounded length; nothing that was there before is changed.
-/
namespace Go.Proofs.YtbbpepghkhfcbaaDoor.Cur
open Go Go.RowKit
set_option linter.unusedVariables false
set_option maxRecDepth 1000000

def ttexts : List (List UInt8) := [[118, 49], [118, 50], [], [97, 44, 98], [120, 32, 121], [118, 49, 45, 100, 101], [34], [97, 98, 99, 100, 101, 102, 103, 104, 105, 106, 97, 98, 99, 100, 101, 102, 103, 104, 105, 106, 97, 98, 99, 100, 101, 102, 103, 104, 105, 106, 97, 98, 99, 100, 101, 102, 103, 104, 105, 106, 107]]
theorem ttexts_len (x : List UInt8) (h : x ∈ ttexts) : x.length ≤ 41 := by
  have hall : ttexts.all (fun x => decide (x.length ≤ 41)) = true := by decide
  have := List.all_eq_true.1 hall x h
  simpa using this
def tseps : List (List UInt8) := [[44, 32], [44], [32, 44, 32]]
theorem tseps_len (x : List UInt8) (h : x ∈ tseps) : x.length ≤ 3 := by
  have hall : tseps.all (fun x => decide (x.length ≤ 3)) = true := by decide
  have := List.all_eq_true.1 hall x h
  simpa using this
def tstars : List (List UInt8) := [[42], [32, 42, 32], [42, 44, 32, 34, 97, 34], [34, 49, 34, 44, 34, 50, 34, 44, 34, 51, 34, 44, 34, 52, 34, 44, 34, 53, 34, 44, 34, 54, 34, 44, 34, 55, 34, 44, 34, 56, 34, 44, 34, 57, 34]]
theorem tstars_len (x : List UInt8) (h : x ∈ tstars) : x.length ≤ 35 := by
  have hall : tstars.all (fun x => decide (x.length ≤ 35)) = true := by decide
  have := List.all_eq_true.1 hall x h
  simpa using this

/-- How a draw of a truth value ends. -/
def DrawnB (c : Nat) (bv : Value) (w : World) (e : Ending) (w' : World) : Prop := ∃ b : Bool, e = .returned (.bool b) ∧ CurAt w' c bv ∧ w.grownBy w' (some c)
theorem once_any (c B : Nat) (bv : Value) (n : Int) (w : World) (hcur : CurAt w c bv) (hby : Bytes w B bv) (hB : B ≤ c) (hn : n ≤ 1000000) :
    Calls Tryd.prog 24 #[.pointer (some ⟨c, 0, none⟩), .int .i64 n] w (DrawnB c bv w) := by
  go_enter Tryd.func24, Tryd.ntmps24
  go_wp2_with (fail)
  go_at_call 21
  refine (below_any c B bv n _ hcur hby hB (by omega)).mono ?_
  rintro e w2 ⟨x, hx, rfl, hc2, hg2⟩
  have HE := Lib.hid (And.intro hc2 hg2)
  clear hx hc2 hg2 hcur hby
  go_wp2
  go_ret
  exact ⟨_, rfl, HE.out.1, HE.out.2⟩

def TagV (f : Bool × List UInt8) : Value := .agg #[.bool f.1, .string ⟨f.2.toArray⟩]
/-- How a draw of a tag ends. -/
def DrawnT (c : Nat) (bv : Value) (w : World) (e : Ending) (w' : World) : Prop := ∃ (b : Bool) (x : List UInt8), x.length ≤ 41 ∧ e = .returned (.agg #[.bool b, .string ⟨x.toArray⟩]) ∧ CurAt w' c bv ∧ w.grownBy w' (some c)
set_option maxHeartbeats 2000000 in
theorem tag_any (c B : Nat) (bv : Value) (w : World) (hcur : CurAt w c bv) (hby : Bytes w B bv) (hB : B ≤ c) :
    Calls Tryd.prog 16 #[.pointer (some ⟨c, 0, none⟩)] w (DrawnT c bv w) := by
  have hcl := cur_lt hcur
  have hc0 := cur_alloc hcur (.cells #[.bool false, .string ⟨#[]⟩] 25)
  have hy0 := bytes_alloc hby (.cells #[.bool false, .string ⟨#[]⟩] 25)
  have hx0 : (w.alloc (.cells #[.bool false, .string ⟨#[]⟩] 25)).cell? ⟨w.heap.size, 0, none⟩ = some (.bool false) := by rw [World.cell?_alloc_new]; rfl
  have hx1 : (w.alloc (.cells #[.bool false, .string ⟨#[]⟩] 25)).cell? ⟨w.heap.size, 1, none⟩ = some (.string ⟨#[]⟩) := by rw [World.cell?_alloc_new]; rfl
  have hf : ∀ j, (w.alloc (.cells #[.bool false, .string ⟨#[]⟩] 25)).frozen? ⟨w.heap.size, j, none⟩ = false := fun j => by simp [go_sem]
  have HX : Hid (∀ w', (w.alloc (.cells #[.bool false, .string ⟨#[]⟩] 25)).grownBy w' (some c) → (w'.cell? ⟨w.heap.size, 0, none⟩ = some (.bool false) ∧ w'.cell? ⟨w.heap.size, 1, none⟩ = some (.string ⟨#[]⟩)) ∧ (w'.frozen? ⟨w.heap.size, 0, none⟩ = false ∧ w'.frozen? ⟨w.heap.size, 1, none⟩ = false) ∧ w.grownBy w' (some c)) := Lib.hid (fun w' hg => by
    have hb : w'.heap[w.heap.size]? = (w.alloc (.cells #[.bool false, .string ⟨#[]⟩] 25)).heap[w.heap.size]? := hg.block _ (by simp) (by simp; omega)
    refine ⟨⟨hg.cell hx0 (by simp; omega), hg.cell hx1 (by simp; omega)⟩, ⟨?_, ?_⟩, gb_trans (World.grownBy_alloc _ _ _) hg⟩
    · have := hf 0; unfold World.frozen? at this ⊢; simp only [hb]; exact this
    · have := hf 1; unfold World.frozen? at this ⊢; simp only [hb]; exact this)
  clear hx0 hx1 hf hcur hby
  go_enter Tryd.func16, Tryd.ntmps16
  go_wp2_with (fail)
  go_at_call 24
  refine (once_any c B bv 3 _ hc0 hy0 hB (by omega)).mono ?_
  rintro e w2 ⟨b, rfl, hc2, hg2⟩
  have hy2 := bytes_kept hy0 hg2 hB
  have H := str_lits c B bv ttexts 8 rfl w2 hc2 hy2 hB (by decide) (by decide) 9
  have HG2 := Lib.hid hg2
  clear hg2 hc0 hy0
  go_wp2_with (fail)
  go_at_call 23
  refine H.mono ?_
  rintro e w3 ⟨x, hx, rfl, hc3, hg3⟩
  have HL := Lib.hid (ttexts_len x hx)
  obtain ⟨⟨x0, x1⟩, ⟨f0, f1⟩, hgw⟩ := HX.out _ (gb_trans HG2.out hg3)
  have hne : c ≠ w.heap.size := by omega
  have HC3 := Lib.hid hc3
  have HGW := Lib.hid hgw
  have HE : Hid (∀ u0 u1 : Value, CurAt ((w3.setCell ⟨w.heap.size, 0, none⟩ u0).setCell ⟨w.heap.size, 1, none⟩ u1) c bv ∧ w.grownBy ((w3.setCell ⟨w.heap.size, 0, none⟩ u0).setCell ⟨w.heap.size, 1, none⟩ u1) (some c)) := Lib.hid (fun u0 u1 => by
    have hb : Below w.heap.size w3 ((w3.setCell ⟨w.heap.size, 0, none⟩ u0).setCell ⟨w.heap.size, 1, none⟩ u1) := Bys.below_set _ (Bys.below_set _ (Below.refl _ _) (Nat.le_refl _)) (Nat.le_refl _)
    exact ⟨cur_same HC3.out (hb.block c hcl), gb_below HGW.out hb⟩)
  clear H hx hc2 hy2 hc3 hg3 hgw HX
  go_wp2
  have HEE := Lib.hid (HE.out (.bool b) (.string ⟨x.toArray⟩))
  have hsz3 : w.heap.size < w3.heap.size := by
    rcases Nat.lt_or_ge w.heap.size w3.heap.size with h | h
    · exact h
    · simp [World.cell?, Array.getElem?_eq_none h] at x0
  have r0 : ((w3.setCell ⟨w.heap.size, 0, none⟩ (.bool b)).setCell ⟨w.heap.size, 1, none⟩ (.string ⟨x.toArray⟩)).cell? ⟨w.heap.size, 0, none⟩ = some (.bool b) := by
    rw [World.cell?_setCell_other _ _ _ _ (by simp), World.cell?_setCell_same _ _ _ x0]
  have r1 : ((w3.setCell ⟨w.heap.size, 0, none⟩ (.bool b)).setCell ⟨w.heap.size, 1, none⟩ (.string ⟨x.toArray⟩)).cell? ⟨w.heap.size, 1, none⟩ = some (.string ⟨x.toArray⟩) := by
    rw [World.cell?_setCell_same' _ _ _ (by rw [World.cell?_setCell_other _ _ _ _ (by simp), x1]; rfl)]
  refine bodyPost_ret (v := .agg #[.bool b, .string ⟨x.toArray⟩]) (by simp [results, Tryd.results16, go_sem, x0, x1]) rfl ⟨b, x, HL.out, rfl, HEE.out.1, HEE.out.2⟩
end Go.Proofs.YtbbpepghkhfcbaaDoor.Cur
