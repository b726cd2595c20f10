/-
  CONTRACTS AND PLAIN FACTS, several texts in one; each says in its own words what it proves.
-/
import Derived.Test.YtidmppphlcfpjaaGreatDoorPqA
import Derived.Test.YtidmppphlcfpjaaGreatDoorPqC
import Derived.Test.YtidmppphlcfpjaaGreatDoorPqE
import Derived.LoopTactic
import Derived.Outline
import Derived.Test.YtidmppphlcfpjaaGreatDoorPqG
import Derived.Test.YtidmppphlcfpjaaGreatDoorPqH
import Derived.Stop.LaidErr
import Derived.LaidMore
import Derived.Test.YtidmppphlcfpjaaGreatDoorPqD
set_option linter.unusedSimpArgs false
set_option linter.unusedVariables false

/-
  PLAIN FACTS on slices of Directive (written by rec.py): what a slice holds, how that is kept, and how a slice that the call itself has built is such a one.
-/
namespace Go.Proofs.YtidmppphlcfpjaaGreatDoor.Dir
open Go Go.RowKit
set_option linter.unusedVariables false
set_option maxRecDepth 1000000

theorem info_r : (Tryz.prog.info? 146).map (fun i => (i.zero, i.size, i.bytes)) = some (some (.agg #[.string ⟨#[]⟩, .string ⟨#[]⟩, .bool false]), 3, 40) := by kernel_rfl

abbrev T : Type := List UInt8 × List UInt8 × Bool
def nov : T := ([], [], false)
def cs (f : T) : List Value := [.string ⟨(f.1).toArray⟩, .string ⟨(f.2.1).toArray⟩, .bool (f.2.2)]
def fv (f : T) : Value := .agg #[.string ⟨(f.1).toArray⟩, .string ⟨(f.2.1).toArray⟩, .bool (f.2.2)]
theorem cs_len (f : T) : (cs f).length = 3 := rfl
theorem cs_one (f : T) : ∀ u ∈ cs f, u.oneCell' = true := by
  intro u hu; simp [cs] at hu; rcases hu with rfl | rfl | rfl <;> rfl
def fcs (l : List T) : List Value := Rec.flat cs l
theorem fcs_len (l : List T) : (fcs l).length = l.length * 3 := Rec.flat_len cs_len l
theorem fcs_more (l : List T) (f : T) : fcs (l ++ [f]) = fcs l ++ [.string ⟨(f.1).toArray⟩, .string ⟨(f.2.1).toArray⟩, .bool (f.2.2)] := Rec.flat_more l f
theorem fcs_one (l : List T) : ∀ u ∈ fcs l, u.oneCell' = true := Rec.flat_one cs_one l
theorem fcs_put {l : List T} {k : Nat} (f : T) (h : k < l.length) : (((fcs l).set (k * 3) (.string ⟨(f.1).toArray⟩)).set (k * 3 + 1) (.string ⟨(f.2.1).toArray⟩)).set (k * 3 + 2) (.bool (f.2.2)) = fcs (l.set k f) := Rec.flat_put cs_len f h
def Ok (f : T) : Prop := f.1.length ≤ maxLen ∧ f.2.1.length ≤ maxLen
/-- The cells from (b, off) on are these. -/
def At (w : World) (b off : Nat) (l : List T) : Prop := Rec.At 3 cs nov w b off l
/-- The slice v reads as l; its cells lie below block B. -/
def Holds (w : World) (B : Nat) (v : Value) (l : List T) : Prop := Rec.Holds 3 cs nov w B v l
abbrev Own (w : World) (B : Nat) (v : Value) (l : List T) : Prop := w.ownsRow B 146 3 v l.length (fcs l)
theorem holds_iff {w : World} {B : Nat} {v : Value} {l : List T} (h : Holds w B v l) : (l = [] ∧ ∃ a cap, v = .slice a 0 cap) ∨ (0 < l.length ∧ ∃ b off cap, v = .slice (some ⟨b, off, none⟩) l.length cap ∧ b < B ∧ l.length ≤ cap ∧ At w b off l) := h
theorem holds_nil (w : World) (B : Nat) (a : Option Addr) (cap : Nat) : Holds w B (.slice a 0 cap) [] := Or.inl ⟨rfl, _, _, rfl⟩
theorem at_cells {w : World} {b off : Nat} {l : List T} (h : At w b off l) {j : Nat} (hj : j < l.length) : w.cell? ⟨b, off + j * 3, none⟩ = some (.string ⟨((l.getD j nov).1).toArray⟩) ∧ w.cell? ⟨b, off + j * 3 + 1, none⟩ = some (.string ⟨((l.getD j nov).2.1).toArray⟩) ∧ w.cell? ⟨b, off + j * 3 + 2, none⟩ = some (.bool ((l.getD j nov).2.2)) := ⟨h j hj 0 _ rfl, h j hj 1 _ rfl, h j hj 2 _ rfl⟩
theorem at_lt {w : World} {b off : Nat} {l : List T} (h : At w b off l) (h0 : 0 < l.length) : b < w.heap.size := Rec.at_lt cs_len (by decide) h h0
theorem at_below {w w' : World} {B b off : Nat} {l : List T} (h : At w b off l) (hb : Below B w w') (hlt : b < B) : At w' b off l := Rec.at_below h hb hlt
theorem holds_more {w : World} {B B' : Nat} {v : Value} {l : List T} (h : Holds w B v l) (hB : B ≤ B') : Holds w B' v l := Rec.holds_more h hB
theorem holds_below {w w' : World} {B : Nat} {v : Value} {l : List T} (h : Holds w B v l) (hb : Below B w w') : Holds w' B v l := Rec.holds_below h hb
theorem holds_grown {w w' : World} {B : Nat} {v : Value} {l : List T} {row : Option Nat} (h : Holds w B v l) (hg : w.grownBy w' row) (hr : ∀ k, row = some k → B ≤ k) : Holds w' B v l := Rec.holds_grown h hg hr
theorem own_len {w : World} {B : Nat} {v : Value} {l : List T} {n : Nat} (h : w.ownsRow B 146 3 v n (fcs l)) : n = l.length := Rec.own_len cs_len (by decide) h
theorem own_cells {w : World} {B g cap : Nat} {l : List T} {n : Nat} (h : w.ownsRow B 146 3 (.slice (some ⟨g, 0, none⟩) n cap) n (fcs l)) {j : Nat} (hj : j < n) : w.cell? ⟨g, j * 3, none⟩ = some (.string ⟨((l.getD j nov).1).toArray⟩) ∧ w.cell? ⟨g, j * 3 + 1, none⟩ = some (.string ⟨((l.getD j nov).2.1).toArray⟩) ∧ w.cell? ⟨g, j * 3 + 2, none⟩ = some (.bool ((l.getD j nov).2.2)) :=
  ⟨Rec.own_cell (z := nov) (i := 0) cs_len (by decide) h hj rfl, Rec.own_cell (z := nov) (i := 1) cs_len (by decide) h hj rfl, Rec.own_cell (z := nov) (i := 2) cs_len (by decide) h hj rfl⟩
theorem own_holds {w : World} {B : Nat} {v : Value} {l : List T} (h : Own w B v l) : Holds w w.heap.size v l := Rec.own_holds cs_len (by decide) h
theorem own_mono {w : World} {B B' : Nat} {v : Value} {l : List T} (h : Own w B v l) (hB : B' ≤ B) : Own w B' v l := Rec.own_mono h hB
theorem row_below {w w' : World} {B n : Nat} {v : Value} {xs : List Value} (h : w.ownsRow B 146 3 v n xs) (hb : Below w.heap.size w w') : w'.ownsRow B 146 3 v n xs := Rec.row_below h hb
theorem row_grown {w w' : World} {B n : Nat} {v : Value} {xs : List Value} {row : Option Nat} (h : w.ownsRow B 146 3 v n xs) (hg : w.grownBy w' row) (hr : ∀ g, v.ownBlock = some g → some g ≠ row) : w'.ownsRow B 146 3 v n xs := Rec.row_grown h hg hr
theorem push_own {B : Nat} {a w w1 : World} {v v' : Value} {l : List T} {f : T} {o : Obj} (hown : Own w B v l) (hb : Below a.heap.size a w) (hB : a.heap.size ≤ B)
    (h' : w1.ownsRow B 146 3 v' (l.length + 1) (fcs l ++ [.string ⟨(f.1).toArray⟩, .string ⟨(f.2.1).toArray⟩, .bool (f.2.2)])) (hg : (w.alloc o).grownBy w1 v.ownBlock) : Own w1 B v' (l ++ [f]) ∧ Below a.heap.size a w1 := Rec.push_own hown hb hB h' hg
theorem own_lit_nil (w : World) : Own (w.alloc (.cells #[] 146)) w.heap.size (.slice (some ⟨w.heap.size, 0, none⟩) 0 0) [] := Rec.own_lit_nil w _
theorem holds_drew {w : World} {B : Nat} {v : Value} {l : List T} (h : Holds w B v l) : Holds w.drew B v l := h
theorem row_drew {w : World} {B n : Nat} {v : Value} {xs : List Value} (h : w.ownsRow B 146 3 v n xs) : w.drew.ownsRow B 146 3 v n xs := h
def part (l : List T) (k : Nat) : List T := Rec.part nov l k
theorem part_len (l : List T) {k : Nat} (h : k ≤ l.length) : (part l k).length = l.length := Rec.part_len l h
theorem part_all (l : List T) : part l l.length = l := Rec.part_all l
theorem part_more {l : List T} {k : Nat} (h : k < l.length) : (part l k).set k (l.getD k nov) = part l (k + 1) := Rec.part_more h
theorem made_part (l : List T) : (madeCells (Value.agg #[.string ⟨#[]⟩, .string ⟨#[]⟩, .bool false]).cells (l.length * 3)).toList = fcs (part l 0) := Rec.made_part cs_len (by decide) l _ rfl
def wt (f : T) : Nat := f.1.length + f.2.1.length
def total (l : List T) : Nat := Rec.total wt l
theorem len_le_total (l : List T) : l.length ≤ total l := Rec.len_le_total wt l
theorem mem_total {l : List T} {f : T} (h : f ∈ l) : wt f ≤ total l := Rec.mem_total wt h
end Go.Proofs.YtidmppphlcfpjaaGreatDoor.Dir

/-
  CONTRACTS of both sides' TrimText: at every text each returns it without the blanks at its beginning and its end; nothing that was there before is changed.
-/
namespace Go.Proofs.YtidmppphlcfpjaaGreatDoor.Tx
open Go Go.RowKit
set_option linter.unusedVariables false
set_option maxRecDepth 1000000

theorem impl_trim (s : ByteArray) (w : World) (hs : s.size ≤ 9223372036854775807) :
    Calls Tryz.prog 257 #[.string s] w fun e w' => e = .returned (.string ⟨(trim s.data.toList).toArray⟩) ∧ Below w.heap.size w w' := by
  have hcon := Tryz.strings_Trim_laid s ⟨#[32, 9]⟩ w hs (by decide) (ascii_of_all (by decide))
  change Calls Tryz.prog 182 _ _ (fun e w' => e = .returned (.string ⟨(Lib.trimS s.data.toList [32, 9]).toArray⟩) ∧ Below w.heap.size w w') at hcon
  rw [trim_set] at hcon
  generalize (⟨(trim s.data.toList).toArray⟩ : ByteArray) = r at hcon ⊢
  go_enter Tryz.func257, Tryz.ntmps257
  go_wp2_with (go_at_call 182; refine hcon.mono ?_; rintro e w' ⟨rfl, hB⟩)
  go_ret
  exact ⟨rfl, hB⟩

def slen : Value → Nat
  | .string s => s.size
  | _ => 0
theorem ret_str {a b : List UInt8} (h : a = b) : Ending.returned (.string ⟨a.toArray⟩) = .returned (.string ⟨b.toArray⟩) := by rw [h]
theorem blank_yes (c : UInt8) (h : blk c = true) (w : World) : Calls Tryz.prog 193 #[.int .u8 (c.toNat : Int)] w fun e w' => e = .returned (.bool true) ∧ w = w' := by
  have : c = 32 ∨ c = 9 := by unfold blk at h; simpa using h
  rcases this with rfl | rfl
  all_goals
    go_enter Tryz.func193, Tryz.ntmps193
    go_wp2
    go_ret
    exact ⟨rfl, rfl⟩
theorem blank_no (c : UInt8) (h : blk c = false) (w : World) : Calls Tryz.prog 193 #[.int .u8 (c.toNat : Int)] w fun e w' => e = .returned (.bool false) ∧ w = w' := by
  have h1 : ((c.toNat : Int) == 32) = false := by
    rw [beq_eq_false_iff_ne]; intro e
    have : c = 32 := UInt8.toNat_inj.1 (by simp; omega)
    subst this; revert h; decide
  have h2 : ((c.toNat : Int) == 9) = false := by
    rw [beq_eq_false_iff_ne]; intro e
    have : c = 9 := UInt8.toNat_inj.1 (by simp; omega)
    subst this; revert h; decide
  clear h
  go_enter Tryz.func193, Tryz.ntmps193
  go_wp2
  go_ret
  exact ⟨rfl, rfl⟩

theorem empty_eq {x : ByteArray} (h : x.size = 0) : x.data.toList = [] := List.eq_nil_of_length_eq_zero (by rw [Array.length_toList]; exact h)
theorem ret_trim {x : ByteArray} {a : List UInt8} (h : [] = a) (hx : x.data.toList = []) : Ending.returned (.string x) = .returned (.string ⟨a.toArray⟩) := by
  subst h
  have : x = ⟨#[]⟩ := by
    have : x.data = #[] := by simpa using hx
    cases x; simp_all
  rw [this]
theorem ret_bytes {x : ByteArray} {a : List UInt8} (h : x.data.toList = a) : Ending.returned (.string x) = .returned (.string ⟨a.toArray⟩) := by subst h; simp
theorem cut_front {x : ByteArray} {n : Nat} (h : n ≤ x.size) : (x.extract 0 n).data.toList = x.data.toList.take n := by simp
theorem cut_size {x : ByteArray} {n : Nat} (h : n ≤ x.size) : (x.extract 0 n).size = n := by simp; omega
theorem cut_one (c : UInt8) (r : List UInt8) : Value.string ((⟨(c :: r).toArray⟩ : ByteArray).extract 1 (r.length + 1)) = .string ⟨r.toArray⟩ := by
  congr 1
  have : ((⟨(c :: r).toArray⟩ : ByteArray).extract 1 (r.length + 1)).data = r.toArray := by simp
  exact ByteArray.ext this
theorem last_split {x : ByteArray} {n : Nat} (hn : x.size = n + 1) (h : n < x.size) : x.data.toList = x.data.toList.take n ++ [x[n]] := by
  have e : x.data.toList.take (n + 1) = x.data.toList := List.take_of_length_le (by rw [Array.length_toList]; have : x.data.size = x.size := rfl; omega)
  have s := List.take_succ_eq_append_getElem (l := x.data.toList) (i := n) (by rw [Array.length_toList]; exact h)
  rw [e] at s
  exact s
theorem last_no {x : ByteArray} {n : Nat} (hn : x.size = n + 1) (h : n < x.size) (hb : blk x[n] = false) : trimr x.data.toList = x.data.toList := by
  rw [last_split hn h]; exact trimr_snoc_no hb
theorem last_yes {x : ByteArray} {n : Nat} (hn : x.size = n + 1) (h : n < x.size) (hb : blk x[n] = true) : trimr x.data.toList = trimr (x.data.toList.take n) := by
  conv => lhs; rw [last_split hn h]
  exact trimr_snoc_blk hb

set_option maxHeartbeats 1000000 in
theorem spec_trim (s : ByteArray) (w : World) (hs : s.size ≤ 9223372036854775806) :
    Calls Tryz.prog 165 #[.string s] w fun e w' => e = .returned (.string ⟨(trim s.data.toList).toArray⟩) ∧ w = w' := by
  obtain ⟨l, rfl⟩ : ∃ l : List UInt8, s = ⟨l.toArray⟩ := ⟨s.data.toList, by simp⟩
  show Calls _ _ _ _ (fun e w' => e = .returned (.string ⟨(trim l).toArray⟩) ∧ w = w')
  have hl : l.length ≤ 9223372036854775806 := hs
  clear hs
  go_enter Tryz.func165, Tryz.ntmps165
  go_wp2
  go_loop [0] (fun t => ∃ m : List UInt8, t = .string ⟨m.toArray⟩ ∧ triml m = triml l ∧ m.length ≤ l.length) (fun t => slen t)
  case atStart => exact ⟨l, rfl, rfl, Nat.le_refl _⟩
  case round =>
    obtain ⟨m, rfl, hm, hml⟩ := hrel
    have HM := Lib.hid hm
    clear hm
    cases m with
    | nil =>
      have HT : Hid (trimr [] = trim l) := Lib.hid (by rw [← trimr_triml, ← HM.out]; rfl)
      go_wp2
      go_loop [0] (fun t => ∃ x : ByteArray, t = .string x ∧ trimr x.data.toList = trim l ∧ x.size ≤ l.length) (fun t => slen t)
      case atStart => exact ⟨_, rfl, HT.out, hml⟩
      case round =>
        clear HT HM
        obtain ⟨x, rfl, hm, hml2⟩ := hrel
        have HM := Lib.hid hm
        clear hm
        rcases Nat.eq_zero_or_pos x.size with h0 | h0
        · have HE := Lib.hid (empty_eq h0)
          go_wp2
          go_ret
          exact ⟨ret_trim (by rw [← HM.out, HE.out]; rfl) HE.out, rfl⟩
        · obtain ⟨n, hn⟩ : ∃ n, x.size = n + 1 := ⟨x.size - 1, by omega⟩
          have hxn : n < x.size := by omega
          rcases hb2 : blk x[n] with _ | _
          · have c3 := blank_no x[n] hb2
            have HT := Lib.hid ((last_no hn hxn hb2).symm.trans HM.out)
            go_wp2_with (go_at_call 193; refine (c3 _).mono ?_; rintro e w' ⟨rfl, rfl⟩)
            go_ret
            exact ⟨ret_bytes HT.out, rfl⟩
          · have c3 := blank_yes x[n] hb2
            have HT := Lib.hid ((last_yes hn hxn hb2).symm.trans HM.out)
            go_wp2_with (go_at_call 193; refine (c3 _).mono ?_; rintro e w' ⟨rfl, rfl⟩)
            go_round
            case rel => exact ⟨x.extract 0 n, rfl, by rw [cut_front (by omega)]; exact HT.out, by rw [cut_size (by omega)]; omega⟩
            case measure => simp [slen]; omega
    | cons c r =>
      rcases hb : blk c with _ | _
      · have c1 := blank_no c hb
        have HT : Hid (trimr (c :: r) = trim l) := Lib.hid (by rw [← trimr_triml, ← HM.out, triml_cons_no hb])
        go_wp2_with (go_at_call 193; refine (c1 _).mono ?_; rintro e w' ⟨rfl, rfl⟩)
        go_loop [0] (fun t => ∃ x : ByteArray, t = .string x ∧ trimr x.data.toList = trim l ∧ x.size ≤ l.length) (fun t => slen t)
        case atStart => exact ⟨_, rfl, HT.out, hml⟩
        case round =>
          clear HT HM
          obtain ⟨x, rfl, hm, hml2⟩ := hrel
          have HM := Lib.hid hm
          clear hm
          rcases Nat.eq_zero_or_pos x.size with h0 | h0
          · have HE := Lib.hid (empty_eq h0)
            go_wp2
            go_ret
            exact ⟨ret_trim (by rw [← HM.out, HE.out]; rfl) HE.out, rfl⟩
          · obtain ⟨n, hn⟩ : ∃ n, x.size = n + 1 := ⟨x.size - 1, by omega⟩
            have hxn : n < x.size := by omega
            rcases hb2 : blk x[n] with _ | _
            · have c3 := blank_no x[n] hb2
              have HT := Lib.hid ((last_no hn hxn hb2).symm.trans HM.out)
              go_wp2_with (go_at_call 193; refine (c3 _).mono ?_; rintro e w' ⟨rfl, rfl⟩)
              go_ret
              exact ⟨ret_bytes HT.out, rfl⟩
            · have c3 := blank_yes x[n] hb2
              have HT := Lib.hid ((last_yes hn hxn hb2).symm.trans HM.out)
              go_wp2_with (go_at_call 193; refine (c3 _).mono ?_; rintro e w' ⟨rfl, rfl⟩)
              go_round
              case rel => exact ⟨x.extract 0 n, rfl, by rw [cut_front (by omega)]; exact HT.out, by rw [cut_size (by omega)]; omega⟩
              case measure => simp [slen]; omega
      · have c1 := blank_yes c hb
        have HT := Lib.hid ((triml_cons_blk (l := r) hb).symm.trans HM.out)
        clear HM
        go_wp2_with (go_at_call 193; refine (c1 _).mono ?_; rintro e w' ⟨rfl, rfl⟩)
        go_round
        case rel => exact ⟨r, cut_one c r, HT.out, by simp at hml; omega⟩
        case measure => simp [slen, ByteArray.size]
end Go.Proofs.YtidmppphlcfpjaaGreatDoor.Tx

/-
  CONTRACTS of both sides' SplitPair: at every text each returns what stands on both sides of the first =, trimmed, and whether there is one; nothing that was there before is changed.
-/
namespace Go.Proofs.YtidmppphlcfpjaaGreatDoor.Tx
open Go Go.RowKit
set_option linter.unusedVariables false
set_option maxRecDepth 1000000

def pairs (l : List UInt8) : List UInt8 × List UInt8 × Bool := (trim (cutAt 61 l).1, trim (cutAt 61 l).2.1, (cutAt 61 l).2.2)
def PairEnd (l : List UInt8) (w : World) (e : Ending) (w' : World) : Prop :=
  e = .returned (.tuple #[.string ⟨(pairs l).1.toArray⟩, .string ⟨(pairs l).2.1.toArray⟩, .bool (pairs l).2.2]) ∧ Below w.heap.size w w'
theorem pair_end {l x y : List UInt8} {b : Bool} {w w' : World} (h : pairs l = (x, y, b)) (hb : Below w.heap.size w w') : PairEnd l w (.returned (.tuple #[.string ⟨x.toArray⟩, .string ⟨y.toArray⟩, .bool b])) w' := by
  unfold PairEnd; rw [h]; exact ⟨rfl, hb⟩
theorem cutAt_len (c : UInt8) (l : List UInt8) : (cutAt c l).1.length ≤ l.length ∧ (cutAt c l).2.1.length ≤ l.length := by
  unfold cutAt; split <;> simp <;> omega
theorem impl_trim_list (l : List UInt8) (w : World) (hs : l.length ≤ 9223372036854775806) :
    Calls Tryz.prog 257 #[.string ⟨l.toArray⟩] w fun e w' => e = .returned (.string ⟨(trim l).toArray⟩) ∧ Below w.heap.size w w' := impl_trim ⟨l.toArray⟩ w (Nat.le_trans hs (by decide))

set_option maxHeartbeats 1000000 in
theorem impl_pair (s : ByteArray) (w : World) (hs : s.size ≤ 9223372036854775806) :
    Calls Tryz.prog 217 #[.string s] w (PairEnd s.data.toList w) := by
  have hl : s.data.toList.length = s.size := by rw [Array.length_toList]; rfl
  have HL := Lib.hid (cutAt_len 61 s.data.toList)
  have c1 := cut_any s 61 w hs
  unfold CutEnd at c1
  have HP : Hid (pairs s.data.toList = (trim (cutAt 61 s.data.toList).1, trim (cutAt 61 s.data.toList).2.1, (cutAt 61 s.data.toList).2.2)) := Lib.hid rfl
  generalize (cutAt 61 s.data.toList).1 = x, (cutAt 61 s.data.toList).2.1 = y, (cutAt 61 s.data.toList).2.2 = b at *
  go_enter Tryz.func217, Tryz.ntmps217
  go_wp2_with (fail)
  go_at_call 145
  refine c1.mono ?_
  rintro e w1 ⟨rfl, hb1⟩
  go_wp2_with (fail)
  go_at_call 257
  refine (impl_trim_list x _ (by have := HL.out; omega)).mono ?_
  rintro e w2 ⟨rfl, hb2⟩
  go_wp2_with (fail)
  go_at_call 257
  refine (impl_trim_list y _ (by have := HL.out; omega)).mono ?_
  rintro e w3 ⟨rfl, hb3⟩
  go_wp2
  go_ret3
  exact pair_end HP.out (Base.then_below (Base.then_below hb1 hb2) hb3)

theorem spec_trim' (s : ByteArray) (w : World) (hs : s.size ≤ 9223372036854775806) :
    Calls Tryz.prog 165 #[.string s] w fun e w' => e = .returned (.string ⟨(trim s.data.toList).toArray⟩) ∧ w' = w :=
  (spec_trim s w hs).mono fun _ _ ⟨h1, h2⟩ => ⟨h1, h2.symm⟩
theorem pair_hit {s : ByteArray} {w w' : World} {k : Nat} (hk : k < s.size) (h1 : ∀ j (hj : j < s.data.toList.length), j < k → s.data.toList[j] ≠ 61) (h2 : ∀ h : k < s.data.toList.length, s.data.toList[k] = 61) (hb : Below w.heap.size w w') :
    PairEnd s.data.toList w (.returned (.tuple #[.string ⟨(trim (s.extract 0 k).data.toList).toArray⟩, .string ⟨(trim (s.extract (k + 1) s.size).data.toList).toArray⟩, .bool true])) w' := by
  have hl : s.data.toList.length = s.size := by rw [Array.length_toList]; rfl
  have hi : k = idx 61 s.data.toList := (idx_eq (by omega) h1 h2).symm
  have e : cutAt 61 s.data.toList = (s.data.toList.take k, s.data.toList.drop (k + 1), true) := by
    unfold cutAt; rw [← hi, hl, if_pos hk]
  unfold PairEnd pairs
  rw [e, ext_eq, ext_eq]
  refine ⟨?_, hb⟩
  have h2 : (s.data.toList.drop (k + 1)).take (s.size - (k + 1)) = s.data.toList.drop (k + 1) := List.take_of_length_le (by rw [List.length_drop, hl]; omega)
  rw [h2, List.drop_zero, Nat.sub_zero]
theorem pair_miss {s : ByteArray} {w w' : World} (h1 : ∀ j (hj : j < s.data.toList.length), j < s.size → s.data.toList[j] ≠ 61) (hb : Below w.heap.size w w') :
    PairEnd s.data.toList w (.returned (.tuple #[.string ⟨(trim s.data.toList).toArray⟩, .string ⟨#[]⟩, .bool false])) w' := by
  have hl : s.data.toList.length = s.size := by rw [Array.length_toList]; rfl
  have hi : idx 61 s.data.toList = s.size := idx_eq (by omega) h1 (fun h => absurd h (by omega))
  have e : cutAt 61 s.data.toList = (s.data.toList, [], false) := by
    unfold cutAt; rw [hi, hl, if_neg (by omega)]
  unfold PairEnd pairs
  rw [e]
  exact ⟨rfl, hb⟩

set_option maxHeartbeats 1000000 in
theorem spec_pair (s : ByteArray) (w : World) (hs : s.size ≤ 9223372036854775806) :
    Calls Tryz.prog 130 #[.string s] w (PairEnd s.data.toList w) := by
  go_enter Tryz.func130, Tryz.ntmps130
  go_wp2
  go_loop [5] (fun i => ∃ k : Nat, k ≤ s.size ∧ i = .int .i64 k ∧ ∀ j (hj : j < s.data.toList.length), j < k → s.data.toList[j] ≠ 61) (fun i => s.size - (intOf i).toNat)
  case atStart => exact ⟨0, Nat.zero_le _, rfl, fun j hj h => absurd h (by omega)⟩
  case round =>
    obtain ⟨k, hk, rfl, hno⟩ := hrel
    have HN := Lib.hid hno
    clear hno
    by_cases hlt : k < s.size
    · rcases hc : ((s[k].toNat : Int) == 61) with _ | _
      · have HC : Hid (s[k] ≠ 61) := Lib.hid (by intro h; rw [h] at hc; revert hc; decide)
        go_wp2
        go_round
        case rel => exact ⟨k + 1, by omega, by go_num, fun j hj h => by
          rcases Nat.lt_or_ge j k with h' | h'
          · exact HN.out j hj h'
          · have : j = k := by omega
            subst this; exact HC.out⟩
        case measure => simp [intOf]; omega
      · have HC : Hid (s[k] = 61) := Lib.hid (UInt8.toNat_inj.1 (by have := beq_iff_eq.1 hc; simp; omega))
        go_wp2
        go_quiet ((go_at_call 165; exact Calls.quiet_of_same (spec_trim' _ _ (by simp; omega))))
        go_wp2
        go_ret3
        exact pair_hit hlt HN.out (fun _ => HC.out) (below_drewN' (Below.refl _ _) _)
    · obtain rfl : k = s.size := by omega
      go_wp2_with (go_at_call 165; refine (spec_trim s _ hs).mono ?_; rintro e w' ⟨rfl, rfl⟩)
      go_ret3
      exact pair_miss HN.out (Below.refl _ _)
end Go.Proofs.YtidmppphlcfpjaaGreatDoor.Tx

/-
  PLAIN FACTS on the directives that are read from a text.
-/
namespace Go.Proofs.YtidmppphlcfpjaaGreatDoor.Dir
open Go Go.RowKit
set_option linter.unusedVariables false
set_option maxRecDepth 1000000

/-- The directive that an element is, if it is one. -/
def dread (x : List UInt8) : Option T :=
  if Tx.token (Tx.pairs x).1 then
    if (Tx.pairs x).2.2 then
      if Tx.token (Tx.pairs x).2.1 then some (Tx.lower (Tx.pairs x).1, (Tx.pairs x).2.1, true)
      else if Tx.unqOk (Tx.pairs x).2.1 then some (Tx.lower (Tx.pairs x).1, Tx.unqText (Tx.pairs x).2.1, true) else none
    else some (Tx.lower (Tx.pairs x).1, [], false)
  else none
def dparts (xs : List (List UInt8)) : List T := xs.filterMap dread
def dparse (s : List UInt8) : List T := dparts (Tx.split s)
theorem dparts_more {xs : List (List UInt8)} {k : Nat} (h : k < xs.length) : dparts (xs.take (k + 1)) = dparts (xs.take k) ++ (dread (xs.getD k [])).toList := by
  unfold dparts
  rw [List.take_succ_eq_append_getElem h, List.filterMap_append, show xs.getD k [] = xs[k] by simp [List.getD, h]]
  rw [List.filterMap_cons, List.filterMap_nil]
  cases hx : dread xs[k] <;> simp [hx]
theorem dparts_yes {xs : List (List UInt8)} {k : Nat} {d : T} (h : k < xs.length) (hd : dread (xs.getD k []) = some d) : dparts (xs.take (k + 1)) = dparts (xs.take k) ++ [d] := by rw [dparts_more h, hd]; rfl
theorem dparts_no {xs : List (List UInt8)} {k : Nat} (h : k < xs.length) (hd : dread (xs.getD k []) = none) : dparts (xs.take (k + 1)) = dparts (xs.take k) := by rw [dparts_more h, hd]; simp
theorem dparts_len (xs : List (List UInt8)) : (dparts xs).length ≤ xs.length := List.length_filterMap_le _ _
theorem tokc_low (c : UInt8) : Tx.tokc (Tx.lowc c) = Tx.tokc c := by
  have h : ∀ n : Fin 256, Tx.tokc (Tx.lowc (UInt8.ofNat n.1)) = Tx.tokc (UInt8.ofNat n.1) := by decide +kernel
  have e : UInt8.ofNat c.toNat = c := by simp
  have := h ⟨c.toNat, c.toNat_lt⟩
  rw [e] at this; exact this
theorem token_low (l : List UInt8) : Tx.token (Tx.lower l) = Tx.token l := by
  unfold Tx.token Tx.lower
  rw [List.all_map, List.length_map]
  congr 1
  congr 1
  funext c; exact tokc_low c
theorem token_head {c : UInt8} {r : List UInt8} (h : Tx.tokc c = false) : Tx.token (c :: r) = false := by unfold Tx.token; simp [h]
theorem token_nil : Tx.token [] = false := rfl
theorem quote_token (r : List UInt8) : Tx.token (34 :: r) = false := token_head (by decide)
theorem unq_head {c : UInt8} {r : List UInt8} (h : c ≠ 34) : Tx.unqOk (c :: r) = false := by unfold Tx.unqOk; simp [h]
theorem unq_empty : Tx.unqOk [] = false := rfl
theorem pairs_no {x : List UInt8} (h : (Tx.pairs x).2.2 = false) : (Tx.pairs x).2.1 = [] := by
  unfold Tx.pairs Tx.cutAt at *
  split at h
  · simp at h
  · rename_i h1; rw [if_neg h1]; rfl
/-- The parts of an element, with what dread makes of them. -/
theorem dread_eq {x a b : List UInt8} {q : Bool} (h : Tx.pairs x = (a, b, q)) : dread x = if Tx.token a then (if q then (if Tx.token b then some (Tx.lower a, b, true) else if Tx.unqOk b then some (Tx.lower a, Tx.unqText b, true) else none) else some (Tx.lower a, [], false)) else none := by
  unfold dread; rw [h]
theorem trim_len (l : List UInt8) : (Tx.trim l).length ≤ l.length := by
  obtain ⟨q, hq, _⟩ := Tx.trimr_prefix l
  obtain ⟨p, hp, _⟩ := Tx.triml_suffix (Tx.trimr l)
  have h1 := congrArg List.length hq
  have h2 := congrArg List.length hp
  rw [List.length_append] at h1 h2
  show (Tx.triml (Tx.trimr l)).length ≤ l.length
  omega
theorem pairs_len (x : List UInt8) : (Tx.pairs x).1.length ≤ x.length ∧ (Tx.pairs x).2.1.length ≤ x.length := by
  have h := Tx.cutAt_len 61 x
  unfold Tx.pairs
  exact ⟨Nat.le_trans (trim_len _) h.1, Nat.le_trans (trim_len _) h.2⟩
end Go.Proofs.YtidmppphlcfpjaaGreatDoor.Dir

/-
  WHAT the contracts ask of the world: the program's two errors of directives are there. And: from a row's listed variables to that.
-/
namespace Go.Proofs.YtidmppphlcfpjaaGreatDoor.Dir
open Go Go.RowKit
set_option linter.unusedVariables false
set_option maxRecDepth 1000000

def IsErr (w : World) (g : Nat) : Prop := g < w.heap.size ∧ ∃ tp p, w.cell? ⟨g, 0, none⟩ = some (.iface tp p)
theorem err_below {w w' : World} {g : Nat} (h : IsErr w g) (hb : Below w.heap.size w w') : IsErr w' g := by
  obtain ⟨hg, tp, p, hc⟩ := h
  exact ⟨Nat.lt_of_lt_of_le hg hb.size, tp, p, (hb.cell (p := ⟨g, 0, none⟩) hg).trans hc⟩
theorem err_of_var {P : Program} {w : World} {name : String} {g : Nat} {tp : TypeId} {p : Value} (hg : P.globalNamed name = some g) (h : w.var? P name = some #[.iface tp p]) : IsErr w g := by
  unfold World.var? at h
  rw [hg] at h
  simp only [Option.bind_some] at h
  have hlt : g < w.heap.size := by
    rcases Nat.lt_or_ge g w.heap.size with h' | h'
    · exact h'
    · rw [Array.getElem?_eq_none h'] at h; simp at h
  refine ⟨hlt, tp, p, ?_⟩
  unfold World.cell?
  rw [Array.getElem?_eq_getElem hlt] at h ⊢
  simp only [Option.bind_some] at h ⊢
  revert h
  cases w.heap[g] with
  | cells cs ty fz => intro h; simp [Obj.cells] at h ⊢; subst h; rfl
  | _ => intro h; simp at h
def Errs (w : World) : Prop := IsErr w 1 ∧ IsErr w 2
theorem errs_below {w w' : World} (h : Errs w) (hb : Below w.heap.size w w') : Errs w' := ⟨err_below h.1 hb, err_below h.2 hb⟩
theorem at_head {P : Program} {w : World} {n : String} {d : DataW Unit} : ∀ {l : List (String × DataW Unit)}, laidMet P l w → (n, d) ∈ l → ∃ r, laidMet P ((n, d) :: r) w
  | [], _, hm => by cases hm
  | x :: r, h, hm => by
    rcases List.mem_cons.1 hm with e | e
    · cases e; exact ⟨r, h⟩
    · exact at_head h.tail e
theorem laid_errs {l : List (String × DataW Unit)} {W : World} (h : laidMet Tryz.prog l W) (h1 : ("loop.example/g03012/impl.errDirectiveName", Rows.laid_loop_example_g03012_impl_errDirectiveName) ∈ l) (h2 : ("loop.example/g03012/impl.errDirectiveValue", Rows.laid_loop_example_g03012_impl_errDirectiveValue) ∈ l) : Errs W := by
  obtain ⟨r1, k1⟩ := at_head h h1
  obtain ⟨r2, k2⟩ := at_head h h2
  have row : ∀ u, Tryz.prog.typeName? 3 u = some "*errors.errorString" → u = 259 :=
    fun u hu => typeName_ptr_named (nm := "errors.errorString") (by kernel_rfl) (by kernel_rfl) (by decide) u hu
  have g1 : Tryz.prog.globalNamed "loop.example/g03012/impl.errDirectiveName" = some 1 := by kernel_rfl
  have g2 : Tryz.prog.globalNamed "loop.example/g03012/impl.errDirectiveValue" = some 2 := by kernel_rfl
  obtain ⟨a1, s1, v1, _⟩ := laid_sentinel k1 g1 (show (Tryz.prog.globals[1]?).map (·.type) = some 104 by kernel_rfl) Tryz.underlying104 row Tryz.underlying259 Tryz.underlying261 rfl rfl Tryz.underlying9 (by kernel_rfl) (by kernel_rfl)
  obtain ⟨a2, s2, v2, _⟩ := laid_sentinel k2 g2 (show (Tryz.prog.globals[2]?).map (·.type) = some 104 by kernel_rfl) Tryz.underlying104 row Tryz.underlying259 Tryz.underlying261 rfl rfl Tryz.underlying9 (by kernel_rfl) (by kernel_rfl)
  exact ⟨err_of_var g1 v1, err_of_var g2 v2⟩
end Go.Proofs.YtidmppphlcfpjaaGreatDoor.Dir

/-
  CONTRACTS of both sides' IsToken: at every text each returns whether it is a token; the world stays as it was.
-/
namespace Go.Proofs.YtidmppphlcfpjaaGreatDoor.Tx
open Go Go.RowKit
set_option linter.unusedVariables false
set_option maxRecDepth 1000000

theorem all_more {s : ByteArray} {k : Nat} (h : k < s.size) (ha : (s.data.toList.take k).all tokc = true) (hc : tokc s[k] = true) : (s.data.toList.take (k + 1)).all tokc = true := by
  rw [take_snoc s k h, List.all_append, ha, List.all_cons, hc]; rfl
theorem token_bad {s : ByteArray} {k : Nat} (h : k < s.size) (hc : tokc s[k] = false) : token s.data.toList = false := by
  unfold token
  have : s.data.toList.all tokc = false := by
    rw [Bool.eq_false_iff]
    intro ha
    have hm : s[k] ∈ s.data.toList := by
      rw [← List.take_append_drop k s.data.toList, drop_cons s k h]; simp
    have := List.all_eq_true.1 ha _ hm
    rw [hc] at this; cases this
  rw [this, Bool.false_and]
theorem token_all {s : ByteArray} {k : Nat} (h : k = s.size) (ha : (s.data.toList.take k).all tokc = true) : token s.data.toList = decide (1 ≤ (s.size : Int) ∧ (s.size : Int) ≤ 40) := by
  have e : s.data.toList.take k = s.data.toList := List.take_of_length_le (by rw [list_len]; omega)
  rw [e] at ha
  unfold token
  rw [ha, Bool.true_and, list_len, Bool.eq_iff_iff]; simp; omega
theorem token_len {s : ByteArray} (h : s.size < 1 ∨ 40 < s.size) : token s.data.toList = false := by
  unfold token
  rw [list_len]
  have : decide (1 ≤ s.size ∧ s.size ≤ 40) = false := by simp; omega
  rw [this, Bool.and_false]

set_option maxHeartbeats 1000000 in
theorem spec_token (s : ByteArray) (w : World) (hs : s.size ≤ 9223372036854775806) :
    Calls Tryz.prog 133 #[.string s] w fun e w' => e = .returned (.bool (token s.data.toList)) ∧ w = w' := by
  go_enter Tryz.func133, Tryz.ntmps133
  go_wp2
  go_loop [3] (fun i => ∃ k : Nat, k ≤ s.size ∧ i = .int .i64 k ∧ (s.data.toList.take k).all tokc = true) (fun i => s.size - (intOf i).toNat)
  case atStart => exact ⟨0, Nat.zero_le _, rfl, rfl⟩
  case round =>
    obtain ⟨k, hk, rfl, ha⟩ := hrel
    have HA := Lib.hid ha
    clear ha
    by_cases hlt : k < s.size
    · have hc1 := tok_spec s[k]
      rcases hc : tokc s[k] with _ | _
      · have HT := Lib.hid (token_bad hlt hc)
        rw [hc] at hc1
        clear hc
        go_wp2_with (go_at_call 166; refine (hc1 _).mono ?_; rintro e w' ⟨rfl, rfl⟩)
        go_ret
        exact ⟨ret_bool HT.out.symm, rfl⟩
      · have HT := Lib.hid (all_more hlt HA.out hc)
        rw [hc] at hc1
        clear hc
        go_wp2_with (go_at_call 166; refine (hc1 _).mono ?_; rintro e w' ⟨rfl, rfl⟩)
        go_round
        case rel => exact ⟨k + 1, by omega, by go_num, HT.out⟩
        case measure => simp [intOf]; omega
    · have HT := Lib.hid (token_all (show k = s.size by omega) HA.out)
      by_cases hz : 1 ≤ (s.size : Int) ∧ (s.size : Int) ≤ 40
      · obtain ⟨z1, z2⟩ := hz
        go_wp2_with (go_at_call 90; refine (NumDiv.in_yes _ _ _ _ z1 z2).mono ?_; rintro e w' ⟨rfl, rfl⟩)
        go_ret
        exact ⟨ret_bool (by rw [HT.out]; simp; omega), rfl⟩
      · have HZ := Lib.hid hz
        clear hz
        go_wp2_with (go_at_call 90; refine (NumDiv.in_no _ _ _ _ (by have := HZ.out; omega)).mono ?_; rintro e w' ⟨rfl, rfl⟩)
        go_ret
        exact ⟨ret_bool (by rw [HT.out]; symm; simp; have := HZ.out; omega), rfl⟩

set_option maxHeartbeats 1000000 in
theorem impl_token (s : ByteArray) (w : World) (hs : s.size ≤ 9223372036854775806) :
    Calls Tryz.prog 218 #[.string s] w fun e w' => e = .returned (.bool (token s.data.toList)) ∧ w = w' := by
  by_cases h1 : (s.size : Int) < 1
  · have HT := Lib.hid (token_len (s := s) (Or.inl (by omega)))
    go_enter Tryz.func218, Tryz.ntmps218
    go_wp2
    go_ret
    exact ⟨ret_bool HT.out.symm, rfl⟩
  · by_cases h2 : 40 < (s.size : Int)
    · have HT := Lib.hid (token_len (s := s) (Or.inr (by omega)))
      go_enter Tryz.func218, Tryz.ntmps218
      go_wp2
      go_ret
      exact ⟨ret_bool HT.out.symm, rfl⟩
    · go_enter Tryz.func218, Tryz.ntmps218
      go_wp2
      go_loop [3, 14] (fun j i => ∃ k : Nat, k ≤ s.size ∧ i = .int .i64 k ∧ (s.data.toList.take k).all tokc = true) (fun _ i => s.size - (intOf i).toNat)
      case atStart => exact ⟨0, Nat.zero_le _, rfl, rfl⟩
      case round =>
        obtain ⟨k, hk, rfl, ha⟩ := hrel
        have HA := Lib.hid ha
        clear ha
        by_cases hlt : k < s.size
        · have hc1 := tok_byte s[k]
          rcases hc : tokc s[k] with _ | _
          · have HT := Lib.hid (token_bad hlt hc)
            rw [hc] at hc1
            clear hc
            go_wp2_with (go_at_call 258; refine (hc1 _).mono ?_; rintro e w' ⟨rfl, rfl⟩)
            go_ret
            exact ⟨ret_bool HT.out.symm, rfl⟩
          · have HT := Lib.hid (all_more hlt HA.out hc)
            rw [hc] at hc1
            clear hc
            go_wp2_with (go_at_call 258; refine (hc1 _).mono ?_; rintro e w' ⟨rfl, rfl⟩)
            go_round
            case rel => exact ⟨k + 1, by omega, by go_num, HT.out⟩
            case measure => simp [intOf]; omega
        · have HT := Lib.hid (token_all (show k = s.size by omega) HA.out)
          have HB := Lib.hid (And.intro h1 h2)
          go_wp2
          go_ret
          exact ⟨ret_bool (by rw [HT.out]; symm; simp; have := HB.out; omega), rfl⟩
end Go.Proofs.YtidmppphlcfpjaaGreatDoor.Tx

/-
  PLAIN FACTS on a quoted string that is being read.
-/
namespace Go.Proofs.YtidmppphlcfpjaaGreatDoor.Tx
open Go Go.RowKit Bys
set_option linter.unusedVariables false
set_option maxRecDepth 1000000

theorem unq_nil : unq [] = ([], none) := by rw [unq]
theorem unq_34 (r : List UInt8) : unq (34 :: r) = ([], some r) := by cases r <;> simp [unq]
theorem unq_esc (d : UInt8) (r : List UInt8) : unq (92 :: d :: r) = (d :: (unq r).1, (unq r).2) := by rw [unq, if_neg (by decide), if_pos (by decide)]
theorem unq_plain {c : UInt8} {r : List UInt8} (h1 : c ≠ 34) (h2 : c ≠ 92 ∨ r = []) : unq (c :: r) = (c :: (unq r).1, (unq r).2) := by
  have h34 : ¬ (c == 34) = true := by simpa using h1
  cases r with
  | nil => simp [unq, h1]
  | cons d t =>
    rcases h2 with h2 | h2
    · rw [unq, if_neg h34, if_neg (by simpa using h2)]
    · cases h2
/-- What is read when k bytes are behind: l so far. -/
def UQ (s : ByteArray) (k : Nat) (l : List UInt8) : Prop := l ++ (unq (s.data.toList.drop k)).1 = unqText s.data.toList ∧ (unq (s.data.toList.drop k)).2 = (unq (s.data.toList.drop 1)).2 ∧ l.length ≤ k
theorem uq_start (s : ByteArray) : UQ s 1 [] := ⟨by unfold unqText; simp, rfl, by simp⟩
theorem uq_plain {s : ByteArray} {k : Nat} {l : List UInt8} (h : UQ s k l) (hk : k < s.size) (h1 : s[k] ≠ 34) (h2 : s[k] ≠ 92 ∨ s.size ≤ k + 1) : UQ s (k + 1) (l ++ [s[k]]) := by
  obtain ⟨a, b, c⟩ := h
  have h2' : s[k] ≠ 92 ∨ s.data.toList.drop (k + 1) = [] := by
    rcases h2 with h2 | h2
    · exact Or.inl h2
    · exact Or.inr (List.drop_eq_nil_of_le (by rw [list_len]; exact h2))
  rw [drop_cons s k hk, unq_plain h1 h2'] at a b
  exact ⟨by rw [List.append_assoc]; exact a, b, by rw [List.length_append]; simp; omega⟩
theorem uq_esc {s : ByteArray} {k : Nat} {l : List UInt8} (h : UQ s k l) (hk : k < s.size) (hk1 : k + 1 < s.size) (h2 : s[k] = 92) : UQ s (k + 1 + 1) (l ++ [s[k + 1]]) := by
  obtain ⟨a, b, c⟩ := h
  rw [drop_cons s k hk, drop_cons s (k + 1) hk1, h2, unq_esc] at a b
  exact ⟨by rw [List.append_assoc]; exact a, b, by rw [List.length_append]; simp; omega⟩
theorem uq_end {s : ByteArray} {k : Nat} {l : List UInt8} (h : UQ s k l) (hk : s.size ≤ k) : l = unqText s.data.toList ∧ unqOk s.data.toList = false := by
  obtain ⟨a, b, c⟩ := h
  rw [List.drop_eq_nil_of_le (by rw [list_len]; exact hk), unq_nil] at a b
  refine ⟨by simpa using a, ?_⟩
  unfold unqOk
  rw [← b]; simp
theorem head_at {s : ByteArray} (h : 0 < s.size) : s.data.toList.head? = some s[0] := by
  have := drop_cons s 0 h
  rw [List.drop_zero] at this
  rw [this]; rfl
theorem uq_quote {s : ByteArray} {k : Nat} {l : List UInt8} (h : UQ s k l) (hk : k < s.size) (h1 : s[k] = 34) (h0 : 0 < s.size) : l = unqText s.data.toList ∧ unqOk s.data.toList = (s[0] == 34 && ((k : Int) == (s.size : Int) - 1)) := by
  obtain ⟨a, b, c⟩ := h
  rw [drop_cons s k hk, h1, unq_34] at a b
  refine ⟨by simpa using a, ?_⟩
  unfold unqOk
  rw [← b, head_at h0, Bool.eq_iff_iff, Bool.and_eq_true, Bool.and_eq_true]
  refine and_congr (by simp) ?_
  simp only [beq_iff_eq, Option.some.injEq, List.drop_eq_nil_iff, list_len]
  omega

/-- How UnquoteText ends. -/
def Unq (l : List UInt8) (w : World) (e : Ending) (w' : World) : Prop := e = .returned (.tuple #[.string ⟨(unqText l).toArray⟩, .bool (unqOk l)]) ∧ Below w.heap.size w w'
theorem unq_ret {l m : List UInt8} {b : Bool} {w : World} {e : Ending} {w' : World} (h : m = unqText l ∧ unqOk l = b) (hb : Below w.heap.size w w') (he : e = .returned (.tuple #[.string ⟨m.toArray⟩, .bool b])) : Unq l w e w' := by
  obtain ⟨rfl, rfl⟩ := h; exact ⟨he, hb⟩
theorem below_drewN {B : Nat} {a w : World} (h : Below B a w) (n : Nat) : Below B a (w.drewN n) := ⟨h.os, h.tape, h.output, h.size, h.block⟩

end Go.Proofs.YtidmppphlcfpjaaGreatDoor.Tx
