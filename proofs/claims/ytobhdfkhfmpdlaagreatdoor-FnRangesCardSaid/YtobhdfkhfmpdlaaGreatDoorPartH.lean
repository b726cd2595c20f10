/-
  CONTRACTS AND PLAIN FACTS, several texts in one; each says in its own words what it proves.
-/
import Derived.Test.YtobhdfkhfmpdlaaGreatDoorPartE
import Derived.Test.YtobhdfkhfmpdlaaGreatDoorPartG
import Derived.Test.YtobhdfkhfmpdlaaGreatDoorPartC
import Derived.LoopTactic
import Derived.Outline
import Derived.Test.YtobhdfkhfmpdlaaGreatDoorPartF
import Derived.Deep.AppendLies
import Derived.Deep.RegionLaw
set_option linter.unusedSimpArgs false
set_option linter.unusedVariables false

/-
  CONTRACTS of FormatContentRange, the model's and the program's; nothing that was there before is changed.
-/
namespace Go.Proofs.YtobhdfkhfmpdlaaGreatDoor.Crf
open Go Go.RowKit
set_option linter.unusedVariables false
set_option maxRecDepth 1000000

abbrev In64 (n : Int) : Prop := -9223372036854775808 ≤ n ∧ n ≤ 9223372036854775807
def crf (p q n : Int) : List UInt8 := if p < q then [98, 121, 116, 101, 115, 32] ++ Lib.itoa p ++ [45] ++ Lib.itoa (q - 1) ++ [47] ++ Lib.itoa n else [98, 121, 116, 101, 115, 32, 42, 47] ++ Lib.itoa n
theorem crf_yes {p q n : Int} (h : p < q) : crf p q n = [98, 121, 116, 101, 115, 32] ++ Lib.itoa p ++ [45] ++ Lib.itoa (q - 1) ++ [47] ++ Lib.itoa n := by unfold crf; rw [if_pos h]
theorem crf_no {p q n : Int} (h : ¬ p < q) : crf p q n = [98, 121, 116, 101, 115, 32, 42, 47] ++ Lib.itoa n := by unfold crf; rw [if_neg h]
def TxtEnd (t : List UInt8) (w : World) (e : Ending) (w' : World) : Prop := e = .returned (.string ⟨t.toArray⟩) ∧ Below w.heap.size w w'
theorem ret_txt {a b : List UInt8} (h : a = b) : Ending.returned (.string ⟨a.toArray⟩) = .returned (.string ⟨b.toArray⟩) := by rw [h]
theorem il {n : Int} (h : In64 n) : (Lib.itoa n).length ≤ 20 := (Fmt.itoa_len h.1 h.2).2
/-- The class of worlds: the span's own block, and all that is old. -/
def CrS (w : World) (p q : Int) (u : World) : Prop := (u.cell? ⟨w.heap.size, 0, none⟩ = some (.int .i64 p) ∧ u.cell? ⟨w.heap.size, 1, none⟩ = some (.int .i64 q)) ∧ Below w.heap.size w u
theorem crs_call {w u u' : World} {p q : Int} (h : CrS w p q u) (hb : Below u.heap.size u u') : CrS w p q u' :=
  ⟨⟨(hb.cell (p := ⟨w.heap.size, 0, none⟩) (Rec.lt_of_cell h.1.1)).trans h.1.1, (hb.cell (p := ⟨w.heap.size, 1, none⟩) (Rec.lt_of_cell h.1.2)).trans h.1.2⟩, Base.then_below h.2 hb⟩
theorem crs_drew {w u : World} {p q : Int} (h : CrS w p q u) : CrS w p q u.drew := ⟨h.1, Rec.below_drew h.2⟩
theorem crs_start (w : World) (p q : Int) (T : TypeId) : CrS w p q (w.alloc (.cells #[.int .i64 p, .int .i64 q] T)) :=
  ⟨⟨by rw [World.cell?_alloc_new]; rfl, by rw [World.cell?_alloc_new]; rfl⟩, (Below.refl _ _).alloc (Nat.le_refl _) _⟩

theorem has_bytes (a b : Int) (w : World) : Calls Tryz.prog 32 #[.agg #[.int .i64 a, .int .i64 b]] w fun e w' => e = .returned (.bool (decide (a < b))) ∧ Below w.heap.size w w' := by
  go_enter Tryz.func32, Tryz.ntmps32
  go_wp2
  go_ret
  exact ⟨rfl, (Below.refl _ _).alloc (Nat.le_refl _) _⟩

set_option maxHeartbeats 2000000 in
theorem impl_crf (p q n : Int) (w : World) (hp : In64 p) (hq : In64 q) (hn : In64 n) (ht : Fmt.Tens w) :
    Calls Tryz.prog 12 #[.agg #[.int .i64 p, .int .i64 q], .int .i64 n] w (TxtEnd (crf p q n) w) := by
  have HS := Lib.hid (crs_start w p q 35)
  have HH := Lib.hid (fun W => has_bytes p q W)
  have HT : Hid (∀ u, CrS w p q u → Fmt.Tens u) := Lib.hid (fun u h => Fmt.tens_below ht h.2)
  unfold TxtEnd
  by_cases h : p < q
  case neg =>
    have HE := Lib.hid (crf_no (n := n) h)
    have HN := Lib.hid (fun W (hW : Fmt.Tens W) => Fmt.impl_fmt n hn.1 hn.2 W hW)
    have l1 := il hn
    generalize Lib.itoa n = s at HE HN l1
    have a1 := Tx.addtwo [98, 121, 116, 101, 115, 32, 42, 47] s (by simp only [List.length_cons, List.length_nil]; omega)
    generalize [98, 121, 116, 101, 115, 32, 42, 47] ++ s = t at HE a1
    have hd : decide (p < q) = false := by simpa using h
    rw [hd] at HH
    clear hp hq hn l1 h hd ht
    go_enter Tryz.func12, Tryz.ntmps12
    go_wp2_with (fail)
    go_at_call 32
    refine (HH.out _).mono ?_
    rintro e w0 ⟨rfl, hb0⟩
    have HS0 := Lib.hid (crs_call HS.out hb0)
    clear hb0
    go_wp2_with (fail)
    go_at_call 33
    refine (HN.out _ (HT.out _ HS0.out)).mono ?_
    rintro e w1 ⟨rfl, hb1⟩
    have HB := Lib.hid (Base.then_below HS0.out.2 hb1)
    clear hb1
    go_wp2
    go_ret
    exact ⟨ret_txt HE.out.symm, HB.out⟩
  have HE := Lib.hid (crf_yes (n := n) h)
  have HG1 : Hid (∀ u : RegS.In (CrS w p q), Calls Tryz.prog 33 #[.int .i64 p] u.w fun e w' => e = .returned (.string ⟨(Lib.itoa p).toArray⟩) ∧ Below u.w.heap.size u.w w') := Lib.hid (fun u => Fmt.impl_fmt p hp.1 hp.2 u.w (HT.out _ u.h))
  have hq1 : In64 (q - 1) := by have := hp.1; have := hq.2; constructor <;> omega
  have HG2 : Hid (∀ u : RegS.In (CrS w p q), Calls Tryz.prog 33 #[.int .i64 (q - 1)] u.w fun e w' => e = .returned (.string ⟨(Lib.itoa (q - 1)).toArray⟩) ∧ Below u.w.heap.size u.w w') := Lib.hid (fun u => Fmt.impl_fmt (q - 1) hq1.1 hq1.2 u.w (HT.out _ u.h))
  have HG3 : Hid (∀ u : RegS.In (CrS w p q), Calls Tryz.prog 33 #[.int .i64 n] u.w fun e w' => e = .returned (.string ⟨(Lib.itoa n).toArray⟩) ∧ Below u.w.heap.size u.w w') := Lib.hid (fun u => Fmt.impl_fmt n hn.1 hn.2 u.w (HT.out _ u.h))
  have l1 := il hp
  have l2 := il hq1
  have l3 := il hn
  generalize Lib.itoa p = s1 at HE HG1 l1
  generalize Lib.itoa (q - 1) = s2 at HE HG2 l2
  generalize Lib.itoa n = s3 at HE HG3 l3
  have a1 := Tx.addtwo [98, 121, 116, 101, 115, 32] s1 (by simp only [List.length_cons, List.length_nil]; omega)
  have a2 := Tx.addtwo ([98, 121, 116, 101, 115, 32] ++ s1) [45] (by simp only [List.length_append, List.length_cons, List.length_nil]; omega)
  have a3 := Tx.addtwo ([98, 121, 116, 101, 115, 32] ++ s1 ++ [45]) s2 (by simp only [List.length_append, List.length_cons, List.length_nil]; omega)
  have a4 := Tx.addtwo ([98, 121, 116, 101, 115, 32] ++ s1 ++ [45] ++ s2) [47] (by simp only [List.length_append, List.length_cons, List.length_nil]; omega)
  have a5 := Tx.addtwo ([98, 121, 116, 101, 115, 32] ++ s1 ++ [45] ++ s2 ++ [47]) s3 (by simp only [List.length_append, List.length_cons, List.length_nil]; omega)
  generalize [98, 121, 116, 101, 115, 32] ++ s1 = t1 at *
  generalize t1 ++ [45] = t2 at *
  generalize t2 ++ s2 = t3 at *
  generalize t3 ++ [47] = t4 at *
  generalize t4 ++ s3 = t5 at *
  have hd : decide (p < q) = true := by simpa using h
  rw [hd] at HH
  have SK : Hid (∀ w0 w1 : World, CrS w p q w0 → Below w0.heap.size w0 w1 → CrS w p q w1) := Lib.hid (fun _ _ h hb => crs_call h hb)
  have f0 : ∀ u : RegS.In (CrS w p q), u.w.cell? ⟨w.heap.size, 0, none⟩ = some (.int .i64 p) := fun u => u.h.1.1
  have f1 : ∀ u : RegS.In (CrS w p q), u.w.cell? ⟨w.heap.size, 1, none⟩ = some (.int .i64 q) := fun u => u.h.1.2
  clear l1 l2 l3 hn h hd ht
  go_enter Tryz.func12, Tryz.ntmps12
  go_wp2_with (fail)
  go_at_call 32
  refine (HH.out _).mono ?_
  rintro e w0 ⟨rfl, hb0⟩
  have HSD := Lib.hid (crs_drew (crs_call HS.out hb0))
  clear hb0
  go_wp2
  refine RegS.region (CrS w p q) (by kernel_rfl) (by kernel_rfl) HSD.out ?_
  haveI : Nonempty (RegS.In (CrS w p q)) := ⟨⟨_, HSD.out⟩⟩
  repeat (first | go_big_quiet_step ((first | (go_at_call 33; with_reducible exact RegS.call (HG1.out _) (fun e w' he => ⟨he.1, SK.out _ _ (RegS.In.h _) he.2⟩)) | (go_at_call 33; with_reducible exact RegS.call (HG2.out _) (fun e w' he => ⟨he.1, SK.out _ _ (RegS.In.h _) he.2⟩)) | (go_at_call 33; with_reducible exact RegS.call (HG3.out _) (fun e w' he => ⟨he.1, SK.out _ _ (RegS.In.h _) he.2⟩)))) | quiet_step (fail))
  refine wpQuiet_nil ?_
  intro wz hw'
  obtain ⟨⟨wq, hS⟩, hw''⟩ := hw'
  subst hw''
  have HBB := Lib.hid hS.2
  clear hS
  go_wp2
  go_ret
  exact ⟨ret_txt HE.out.symm, HBB.out⟩
end Go.Proofs.YtobhdfkhfmpdlaaGreatDoor.Crf

/-
  PLAIN FACTS on slices of Ask (written by rec.py): what a slice holds, how that is kept, and how a slice that the call itself has built is such a one.
-/
namespace Go.Proofs.YtobhdfkhfmpdlaaGreatDoor.Asks
open Go Go.RowKit
set_option linter.unusedVariables false
set_option maxRecDepth 1000000

theorem info_r : (Tryz.prog.info? 30).map (fun i => (i.zero, i.size, i.bytes)) = some (some (.agg #[.int .i64 0, .int .i64 0]), 2, 16) := by kernel_rfl

abbrev T : Type := Int × Int
def nov : T := (0, 0)
def cs (f : T) : List Value := [.int .i64 (f.1), .int .i64 (f.2)]
def fv (f : T) : Value := .agg #[.int .i64 (f.1), .int .i64 (f.2)]
theorem cs_len (f : T) : (cs f).length = 2 := rfl
theorem cs_one (f : T) : ∀ u ∈ cs f, u.oneCell' = true := by
  intro u hu; simp [cs] at hu; rcases hu with rfl | rfl <;> rfl
def fcs (l : List T) : List Value := Rec.flat cs l
theorem fcs_len (l : List T) : (fcs l).length = l.length * 2 := Rec.flat_len cs_len l
theorem fcs_more (l : List T) (f : T) : fcs (l ++ [f]) = fcs l ++ [.int .i64 (f.1), .int .i64 (f.2)] := Rec.flat_more l f
theorem fcs_one (l : List T) : ∀ u ∈ fcs l, u.oneCell' = true := Rec.flat_one cs_one l
theorem fcs_put {l : List T} {k : Nat} (f : T) (h : k < l.length) : ((fcs l).set (k * 2) (.int .i64 (f.1))).set (k * 2 + 1) (.int .i64 (f.2)) = fcs (l.set k f) := Rec.flat_put cs_len f h
def Ok (f : T) : Prop := (-9223372036854775808 ≤ f.1 ∧ f.1 ≤ 9223372036854775807) ∧ (-9223372036854775808 ≤ f.2 ∧ f.2 ≤ 9223372036854775807)
/-- The cells from (b, off) on are these. -/
def At (w : World) (b off : Nat) (l : List T) : Prop := Rec.At 2 cs nov w b off l
/-- The slice v reads as l; its cells lie below block B. -/
def Holds (w : World) (B : Nat) (v : Value) (l : List T) : Prop := Rec.Holds 2 cs nov w B v l
abbrev Own (w : World) (B : Nat) (v : Value) (l : List T) : Prop := w.ownsRow B 30 2 v l.length (fcs l)
theorem holds_iff {w : World} {B : Nat} {v : Value} {l : List T} (h : Holds w B v l) : (l = [] ∧ ∃ a cap, v = .slice a 0 cap) ∨ (0 < l.length ∧ ∃ b off cap, v = .slice (some ⟨b, off, none⟩) l.length cap ∧ b < B ∧ l.length ≤ cap ∧ At w b off l) := h
theorem holds_nil (w : World) (B : Nat) (a : Option Addr) (cap : Nat) : Holds w B (.slice a 0 cap) [] := Or.inl ⟨rfl, _, _, rfl⟩
theorem at_cells {w : World} {b off : Nat} {l : List T} (h : At w b off l) {j : Nat} (hj : j < l.length) : w.cell? ⟨b, off + j * 2, none⟩ = some (.int .i64 ((l.getD j nov).1)) ∧ w.cell? ⟨b, off + j * 2 + 1, none⟩ = some (.int .i64 ((l.getD j nov).2)) := ⟨h j hj 0 _ rfl, h j hj 1 _ rfl⟩
theorem at_lt {w : World} {b off : Nat} {l : List T} (h : At w b off l) (h0 : 0 < l.length) : b < w.heap.size := Rec.at_lt cs_len (by decide) h h0
theorem at_below {w w' : World} {B b off : Nat} {l : List T} (h : At w b off l) (hb : Below B w w') (hlt : b < B) : At w' b off l := Rec.at_below h hb hlt
theorem holds_more {w : World} {B B' : Nat} {v : Value} {l : List T} (h : Holds w B v l) (hB : B ≤ B') : Holds w B' v l := Rec.holds_more h hB
theorem holds_below {w w' : World} {B : Nat} {v : Value} {l : List T} (h : Holds w B v l) (hb : Below B w w') : Holds w' B v l := Rec.holds_below h hb
theorem holds_grown {w w' : World} {B : Nat} {v : Value} {l : List T} {row : Option Nat} (h : Holds w B v l) (hg : w.grownBy w' row) (hr : ∀ k, row = some k → B ≤ k) : Holds w' B v l := Rec.holds_grown h hg hr
theorem own_len {w : World} {B : Nat} {v : Value} {l : List T} {n : Nat} (h : w.ownsRow B 30 2 v n (fcs l)) : n = l.length := Rec.own_len cs_len (by decide) h
theorem own_cells {w : World} {B g cap : Nat} {l : List T} {n : Nat} (h : w.ownsRow B 30 2 (.slice (some ⟨g, 0, none⟩) n cap) n (fcs l)) {j : Nat} (hj : j < n) : w.cell? ⟨g, j * 2, none⟩ = some (.int .i64 ((l.getD j nov).1)) ∧ w.cell? ⟨g, j * 2 + 1, none⟩ = some (.int .i64 ((l.getD j nov).2)) :=
  ⟨Rec.own_cell (z := nov) (i := 0) cs_len (by decide) h hj rfl, Rec.own_cell (z := nov) (i := 1) cs_len (by decide) h hj rfl⟩
theorem own_holds {w : World} {B : Nat} {v : Value} {l : List T} (h : Own w B v l) : Holds w w.heap.size v l := Rec.own_holds cs_len (by decide) h
theorem own_mono {w : World} {B B' : Nat} {v : Value} {l : List T} (h : Own w B v l) (hB : B' ≤ B) : Own w B' v l := Rec.own_mono h hB
theorem row_below {w w' : World} {B n : Nat} {v : Value} {xs : List Value} (h : w.ownsRow B 30 2 v n xs) (hb : Below w.heap.size w w') : w'.ownsRow B 30 2 v n xs := Rec.row_below h hb
theorem row_grown {w w' : World} {B n : Nat} {v : Value} {xs : List Value} {row : Option Nat} (h : w.ownsRow B 30 2 v n xs) (hg : w.grownBy w' row) (hr : ∀ g, v.ownBlock = some g → some g ≠ row) : w'.ownsRow B 30 2 v n xs := Rec.row_grown h hg hr
theorem push_own {B : Nat} {a w w1 : World} {v v' : Value} {l : List T} {f : T} {o : Obj} (hown : Own w B v l) (hb : Below a.heap.size a w) (hB : a.heap.size ≤ B)
    (h' : w1.ownsRow B 30 2 v' (l.length + 1) (fcs l ++ [.int .i64 (f.1), .int .i64 (f.2)])) (hg : (w.alloc o).grownBy w1 v.ownBlock) : Own w1 B v' (l ++ [f]) ∧ Below a.heap.size a w1 := Rec.push_own hown hb hB h' hg
theorem own_lit_nil (w : World) : Own (w.alloc (.cells #[] 30)) w.heap.size (.slice (some ⟨w.heap.size, 0, none⟩) 0 0) [] := Rec.own_lit_nil w _
theorem holds_drew {w : World} {B : Nat} {v : Value} {l : List T} (h : Holds w B v l) : Holds w.drew B v l := h
theorem row_drew {w : World} {B n : Nat} {v : Value} {xs : List Value} (h : w.ownsRow B 30 2 v n xs) : w.drew.ownsRow B 30 2 v n xs := h
def part (l : List T) (k : Nat) : List T := Rec.part nov l k
theorem part_len (l : List T) {k : Nat} (h : k ≤ l.length) : (part l k).length = l.length := Rec.part_len l h
theorem part_all (l : List T) : part l l.length = l := Rec.part_all l
theorem part_more {l : List T} {k : Nat} (h : k < l.length) : (part l k).set k (l.getD k nov) = part l (k + 1) := Rec.part_more h
theorem made_part (l : List T) : (madeCells (Value.agg #[.int .i64 0, .int .i64 0]).cells (l.length * 2)).toList = fcs (part l 0) := Rec.made_part cs_len (by decide) l _ rfl
def wt (f : T) : Nat := 0
def total (l : List T) : Nat := Rec.total wt l
theorem len_le_total (l : List T) : l.length ≤ total l := Rec.len_le_total wt l
theorem mem_total {l : List T} {f : T} (h : f ∈ l) : wt f ≤ total l := Rec.mem_total wt h
end Go.Proofs.YtobhdfkhfmpdlaaGreatDoor.Asks

/-
  CONTRACT of the program's JoinList: at every slice of texts that are not too long together it returns the texts with a comma and a space between them; nothing that was there before is changed.
-/
namespace Go.Proofs.YtobhdfkhfmpdlaaGreatDoor.Tx
open Go Go.RowKit Strs
set_option linter.unusedVariables false
set_option maxRecDepth 1000000

theorem lib_join (v : Value) (B : Nat) (xs : List (List UInt8)) (w : World) (h : Holds w B v xs) (ht : total xs ≤ 67108864) :
    Calls Tryz.prog 43 #[v, .string ⟨#[44, 32]⟩] w (JoinEnd xs w) := by
  have hl : xs.length ≤ 67108864 := by unfold total at ht; omega
  rcases h with ⟨rfl, a, cap, rfl⟩ | ⟨h0, b, off, cap, rfl, _, hcap, hc⟩
  · refine (Tryz.strings_Join_none a cap ⟨#[44, 32]⟩ w).mono ?_
    rintro e w' ⟨rfl, rfl⟩
    exact ⟨rfl, Below.refl _ _⟩
  · have hm : (xs.map (fun x => (⟨x.toArray⟩ : ByteArray))).map (·.data.toList) = xs := by rw [List.map_map]; exact List.map_id'' (fun _ => rfl) xs
    have hlen : (Lib.join xs [44, 32]).length ≤ 140737488355328 := by
      have h1 := join_len xs xs.length (Nat.le_refl _)
      rw [List.take_length] at h1
      have h2 := pre_le xs xs.length
      have : (join xs).length = (Lib.join xs [44, 32]).length := rfl
      unfold total at ht; omega
    have c := Tryz.strings_Join b off cap (xs.map (fun x => (⟨x.toArray⟩ : ByteArray))) ⟨#[44, 32]⟩ w (fun j x hj => by
      rw [List.getElem?_map] at hj
      have hjl : j < xs.length := by
        rcases Nat.lt_or_ge j xs.length with h' | h'
        · exact h'
        · rw [List.getElem?_eq_none h'] at hj; cases hj
      rw [hc j hjl]
      rw [List.getElem?_eq_getElem hjl] at hj
      simp at hj; subst hj
      simp [List.getD, hjl, sv]) (at_lt hc h0) (by simp; omega) (by simpa using hcap) (by rw [hm]; exact hlen)
    rw [hm, List.length_map] at c
    exact c

theorem impl_join (v : Value) (B : Nat) (xs : List (List UInt8)) (w : World) (h : Holds w B v xs) (ht : total xs ≤ 67108864) :
    Calls Tryz.prog 25 #[v] w (JoinEnd xs w) := by
  have c1 := lib_join v B xs w h ht
  unfold JoinEnd at c1 ⊢
  generalize (⟨(join xs).toArray⟩ : ByteArray) = z at c1 ⊢
  clear h
  go_enter Tryz.func25, Tryz.ntmps25
  go_wp2_with (go_at_call 43; refine c1.mono ?_; rintro e w1 ⟨rfl, hb⟩)
  go_ret
  exact ⟨rfl, hb⟩
end Go.Proofs.YtobhdfkhfmpdlaaGreatDoor.Tx

/-
  CONTRACT of the model's JoinList: at every slice of texts that are not too long together it returns the texts with a comma and a space between them; nothing that was there before is changed.
-/
namespace Go.Proofs.YtobhdfkhfmpdlaaGreatDoor.Tx
open Go Go.RowKit Strs
set_option linter.unusedVariables false
set_option maxRecDepth 1000000

theorem spec_join_nil (a : Option Addr) (cap : Nat) (w : World) :
    Calls Tryz.prog 39 #[.slice a 0 cap] w (JoinEnd [] w) := by
  go_enter Tryz.func39, Tryz.ntmps39
  go_wp2
  go_loop [3, 4] (fun s i => i = .int .i64 0 ∧ s = .string ⟨#[]⟩) (fun _ i => 0)
  case atStart => exact ⟨rfl, rfl⟩
  case round =>
    obtain ⟨rfl, rfl⟩ := hrel
    go_wp2
    go_ret
    exact ⟨rfl, Below.refl _ _⟩

set_option maxHeartbeats 1000000 in
theorem spec_join_some (b off cap : Nat) (xs : List (List UInt8)) (w : World) (hc : At w b off xs) (h0 : 0 < xs.length) (ht : total xs ≤ 67108864) :
    Calls Tryz.prog 39 #[.slice (some ⟨b, off, none⟩) xs.length cap] w (JoinEnd xs w) := by
  have hl : xs.length ≤ 67108864 := by unfold total at ht; omega
  have HC := Lib.hid hc
  have HT := Lib.hid ht
  clear hc ht
  go_enter Tryz.func39, Tryz.ntmps39
  go_wp2
  go_loop [3, 4] (fun s i => ∃ k : Nat, k ≤ xs.length ∧ i = .int .i64 (k : Int) ∧ s = .string ⟨(join (xs.take k)).toArray⟩) (fun _ i => xs.length - (intOf i).toNat)
  case atStart => exact ⟨0, Nat.zero_le _, rfl, rfl⟩
  case round =>
    obtain ⟨k, hk, rfl, rfl⟩ := hrel
    by_cases hlt : k < xs.length
    · have hcell := HC.out k hlt
      have HJ := Lib.hid (join_len xs k hk)
      have HP := Lib.hid (pre_more hlt)
      have HPL := Lib.hid (pre_le xs (k + 1))
      unfold sv at hcell
      by_cases hz : 0 < k
      · have hzi : 0 < (k : Int) := by omega
        have HM := Lib.hid (join_more hlt hz)
        generalize xs.getD k [] = x at *
        generalize join (xs.take k) = y at *
        have hadd1 := addtwo y [44, 32] (by have := HJ.out; have := HP.out; have := HPL.out; have := HT.out; unfold total at this; simp only [List.length_append, List.length_cons, List.length_nil]; omega)
        have hadd2 := addtwo (y ++ [44, 32]) x (by have := HJ.out; have := HP.out; have := HPL.out; have := HT.out; unfold total at this; simp only [List.length_append, List.length_cons, List.length_nil]; omega)
        go_wp2
        go_round
        case rel => exact ⟨k + 1, by omega, by go_num, by rw [HM.out]; simp⟩
        case measure => simp [intOf]; omega
      · have hzi : ¬ 0 < (k : Int) := by omega
        have h00 : join (xs.take k) = [] := by rw [show k = 0 by omega]; rfl
        have HM : Hid (join (xs.take (k + 1)) = xs.getD k []) := Lib.hid (by rw [show k = 0 by omega]; exact join_first h0)
        rw [h00]
        clear h00 HJ
        generalize xs.getD k [] = x at *
        have hadd2 : ∀ W, (Op.stringOp .add ⟨#[]⟩ ⟨x.toArray⟩).run Tryz.prog W = .ok (.string ⟨x.toArray⟩) W := addtwo [] x (by have := HP.out; have := HPL.out; have := HT.out; unfold total at this; simp only [List.length_append, List.length_cons, List.length_nil]; omega)
        go_wp2
        go_round
        case rel => exact ⟨k + 1, by omega, by go_num, by rw [HM.out]⟩
        case measure => simp [intOf]; omega
    · have HE : Hid (join (xs.take k) = join xs) := Lib.hid (by rw [List.take_of_length_le (by omega)])
      go_wp2
      go_ret
      exact ⟨ret_join HE.out, Below.refl _ _⟩

theorem spec_join (v : Value) (B : Nat) (xs : List (List UInt8)) (w : World) (h : Holds w B v xs) (ht : total xs ≤ 67108864) :
    Calls Tryz.prog 39 #[v] w (JoinEnd xs w) := by
  rcases h with ⟨rfl, a, cap, rfl⟩ | ⟨h0, b, off, cap, rfl, _, _, hc⟩
  · exact spec_join_nil a cap w
  · exact spec_join_some b off cap xs w hc h0 ht

end Go.Proofs.YtobhdfkhfmpdlaaGreatDoor.Tx

/-
  CONTRACTS of FormatRanges, the model's and the program's; nothing that was there before is changed.
-/
namespace Go.Proofs.YtobhdfkhfmpdlaaGreatDoor.Rng
open Go Go.RowKit Crf
set_option linter.unusedVariables false
set_option maxRecDepth 1000000

def fa (p q : Int) : List UInt8 := if p < 0 then [45] ++ Lib.itoa q else if q < 0 then Lib.itoa p ++ [45] else Lib.itoa p ++ [45] ++ Lib.itoa q
theorem fa_neg {p q : Int} (h : p < 0) : fa p q = [45] ++ Lib.itoa q := by unfold fa; rw [if_pos h]
theorem fa_open {p q : Int} (h : ¬ p < 0) (h2 : q < 0) : fa p q = Lib.itoa p ++ [45] := by unfold fa; rw [if_neg h, if_pos h2]
theorem fa_both {p q : Int} (h : ¬ p < 0) (h2 : ¬ q < 0) : fa p q = Lib.itoa p ++ [45] ++ Lib.itoa q := by unfold fa; rw [if_neg h, if_neg h2]
theorem fa_len {p q : Int} (hp : In64 p) (hq : In64 q) : (fa p q).length ≤ 41 := by
  have h1 := il hp
  have h2 := il hq
  unfold fa; split
  · simp only [List.length_append, List.length_cons, List.length_nil]; omega
  · split <;> (simp only [List.length_append, List.length_cons, List.length_nil]; omega)
def fal (l : List Asks.T) : List (List UInt8) := l.map (fun a => fa a.1 a.2)
theorem fal_len (l : List Asks.T) : (fal l).length = l.length := by unfold fal; simp
theorem fal_take_len (l : List Asks.T) (k : Nat) : (fal (l.take k)).length ≤ l.length := by rw [fal_len, List.length_take]; omega
theorem fal_more {l : List Asks.T} {k : Nat} (h : k < l.length) : fal (l.take (k + 1)) = fal (l.take k) ++ [fa (l.getD k Asks.nov).1 (l.getD k Asks.nov).2] := by
  unfold fal; rw [List.take_succ_eq_append_getElem h, List.map_append]; simp [List.getD, h]
theorem fal_tot {l : List Asks.T} (hl : l.length ≤ 1048576) (hok : ∀ a ∈ l, Asks.Ok a) : Strs.total (fal l) ≤ 67108864 ∧ (Tx.join (fal l)).length ≤ 67108864 := by
  have key : ∀ m : List Asks.T, (∀ a ∈ m, Asks.Ok a) → ((fal m).map (·.length)).sum ≤ 41 * m.length := by
    intro m hm
    induction m with
    | nil => simp [fal]
    | cons a r ih =>
      have h1 := ih (fun b hb => hm b (by simp [hb]))
      have h2 := hm a (by simp)
      have h3 := fa_len (p := a.1) (q := a.2) h2.1 h2.2
      unfold fal at h1 ⊢
      simp only [List.map_cons, List.sum_cons, List.length_cons]
      omega
  have h1 := key l hok
  have h2 := fal_len l
  have h3 := Tx.join_len (fal l) (fal l).length (Nat.le_refl _)
  rw [List.take_length] at h3
  have h4 := Tx.pre_le (fal l) (fal l).length
  exact ⟨by unfold Strs.total; omega, by omega⟩
def frng (l : List Asks.T) : List UInt8 := [98, 121, 116, 101, 115, 61] ++ Tx.join (fal l)
theorem shape {w : World} {B : Nat} {v : Value} {l : List Asks.T} (h : Asks.Holds w B v l) : ∃ a cap, v = .slice a l.length cap ∧ (0 < l.length → ∃ b off, a = some ⟨b, off, none⟩ ∧ b < B ∧ l.length ≤ cap ∧ Asks.At w b off l) := by
  rcases h with ⟨rfl, a, cap, rfl⟩ | ⟨h0, b, off, cap, rfl, hb, hcap, hc⟩
  · exact ⟨a, cap, rfl, fun h => by simp at h⟩
  · exact ⟨_, cap, rfl, fun _ => ⟨b, off, rfl, hb, hcap, hc⟩⟩

set_option maxRecDepth 1000000 in
set_option maxHeartbeats 4000000 in
theorem spec_frng (v : Value) (B : Nat) (l : List Asks.T) (w : World) (h : Asks.Holds w B v l) (hB : B ≤ w.heap.size) (hl : l.length ≤ 1048576) (hok : ∀ a ∈ l, Asks.Ok a) :
    Calls Tryz.prog 20 #[v] w (TxtEnd (frng l) w) := by
  obtain ⟨i0, hi, hz0, hz1, hz2⟩ := info_parts Strs.info_str
  have HTT := Lib.hid (fal_tot hl hok)
  have HOK := Lib.hid hok
  obtain ⟨a, cap, rfl, ha⟩ := shape h
  have HA := Lib.hid ha
  have HO := Lib.hid (Strs.own_lit_nil w)
  have HB := Lib.hid ((Below.refl w.heap.size w).alloc (Nat.le_refl _) (.cells #[] 9))
  clear ha h hok
  go_enter Tryz.func20, Tryz.ntmps20
  go_wp2
  go_loopw [3, 4] (fun u i wr => ∃ k : Nat, k ≤ l.length ∧ i = .int .i64 (k : Int) ∧ wr.ownsRow w.heap.size 9 1 u (fal (l.take k)).length (Strs.svs (fal (l.take k))) ∧ Below w.heap.size w wr) (fun _ i _ => l.length - (intOf i).toNat)
  case atStart => exact ⟨0, Nat.zero_le _, rfl, HO.out, HB.out⟩
  case round =>
    clear HO HB
    obtain ⟨k, hk, rfl, hown, hb⟩ := hrel
    have HB := Lib.hid hb
    have HO := Lib.hid hown
    have HML := Lib.hid (fal_take_len l k)
    clear hown
    by_cases hlt : k < l.length
    · obtain ⟨b, off, rfl, hbw, hcap, hc⟩ := HA.out (by omega)
      obtain ⟨c0, c1⟩ := Asks.at_cells (Asks.at_below hc hb (Nat.lt_of_lt_of_le hbw hB)) hlt
      have HM := Lib.hid (fal_more hlt)
      obtain ⟨hp, hq⟩ : In64 (l.getD k Asks.nov).1 ∧ In64 (l.getD k Asks.nov).2 := HOK.out _ (Rec.getD_mem (z := Asks.nov) hlt)
      clear hb hc
      generalize l.getD k Asks.nov = s at c0 c1 HM hp hq
      obtain ⟨p, q⟩ := s
      simp only at c0 c1 HM hp hq
      generalize fal (l.take k) = m at HO HML HM
      have HA2 : Hid (Below wr.heap.size wr (wr.alloc (.cells #[.int .i64 p, .int .i64 q] 30))) := Lib.hid ((Below.refl _ _).alloc (Nat.le_refl _) _)
      have HO := Lib.hid (Rec.row_below HO.out HA2.out)
      have HB := Lib.hid (Base.then_below HB.out HA2.out)
      have HX := Lib.hid (crs_start wr p q 30).1
      clear HA2
      have HP := Lib.hid (fun W => Fmt.spec_fmt p hp.1 hp.2 W)
      have HQ := Lib.hid (fun W => Fmt.spec_fmt q hq.1 hq.2 W)
      have lp := il hp
      have lq := il hq
      clear hp hq
      by_cases h1 : p < 0
      · rw [fa_neg h1] at HM
        generalize Lib.itoa q = sq at HM HQ lq
        have a1 := Tx.addtwo [45] sq (by simp only [List.length_append, List.length_cons, List.length_nil]; omega)
        generalize [45] ++ sq = t at HM a1
        go_wp2_with (fail)
        go_at_call 38
        refine (HQ.out _).mono ?_
        rintro e w2 ⟨rfl, bq⟩
        have hown := Rec.row_below HO.out bq
        have HB := Lib.hid (Base.then_below HB.out bq)
        have hbz := HB.out.size
        clear bq HO HX
        go_wp2_with (at_builtin; go_loud (refine wpList_append_own _ rfl (.tmp 32) (.tmp 37) 41 rfl w.heap.size 9 i0 (.string ⟨#[]⟩) 1 16 Tryz.underlying41 hi hz0 hz1 hz2 rfl (by decide) _ _ _ rfl (hown.alloc _) ⟨w2.heap.size, 0, none⟩ 1 1 [Strs.sv t] rfl rfl (Strs.news_one _ _ _) (Strs.sv_one t) (by have := HML.out; unfold maxLen; first | omega | (simp; omega) | (simp; done)) (by have := HML.out; first | omega | (simp; omega) | (simp; done)) (by first | omega | (simp; omega) | (simp; done)) ?_; intro v1 w4 hown1 hg1 _))
        have R := Lib.hid (Strs.push_own (a := w) (x := t) hown HB.out (Nat.le_refl _) hown1 hg1)
        clear hown hown1 hg1
        go_wp2
        go_roundw
        case rel => exact ⟨k + 1, by omega, by go_num, by rw [HM.out]; exact R.out.1, R.out.2⟩
        case measure => simp [intOf]; omega
      by_cases h2 : q < 0
      · rw [fa_open h1 h2] at HM
        generalize Lib.itoa p = sp at HM HP lp
        have a1 := Tx.addtwo sp [45] (by simp only [List.length_append, List.length_cons, List.length_nil]; omega)
        generalize sp ++ [45] = t at HM a1
        go_wp2_with (fail)
        go_at_call 38
        refine (HP.out _).mono ?_
        rintro e w2 ⟨rfl, bq⟩
        have hown := Rec.row_below HO.out bq
        have HB := Lib.hid (Base.then_below HB.out bq)
        have hbz := HB.out.size
        clear bq HO HX
        go_wp2_with (at_builtin; go_loud (refine wpList_append_own _ rfl (.tmp 43) (.tmp 48) 41 rfl w.heap.size 9 i0 (.string ⟨#[]⟩) 1 16 Tryz.underlying41 hi hz0 hz1 hz2 rfl (by decide) _ _ _ rfl (hown.alloc _) ⟨w2.heap.size, 0, none⟩ 1 1 [Strs.sv t] rfl rfl (Strs.news_one _ _ _) (Strs.sv_one t) (by have := HML.out; unfold maxLen; first | omega | (simp; omega) | (simp; done)) (by have := HML.out; first | omega | (simp; omega) | (simp; done)) (by first | omega | (simp; omega) | (simp; done)) ?_; intro v1 w4 hown1 hg1 _))
        have R := Lib.hid (Strs.push_own (a := w) (x := t) hown HB.out (Nat.le_refl _) hown1 hg1)
        clear hown hown1 hg1
        go_wp2
        go_roundw
        case rel => exact ⟨k + 1, by omega, by go_num, by rw [HM.out]; exact R.out.1, R.out.2⟩
        case measure => simp [intOf]; omega
      rw [fa_both h1 h2] at HM
      generalize Lib.itoa p = sp at HM HP lp
      generalize Lib.itoa q = sq at HM HQ lq
      have a1 := Tx.addtwo sp [45] (by simp only [List.length_append, List.length_cons, List.length_nil]; omega)
      have a2 := Tx.addtwo (sp ++ [45]) sq (by simp only [List.length_append, List.length_cons, List.length_nil]; omega)
      generalize sp ++ [45] = t1 at HM a1 a2
      generalize t1 ++ sq = t at HM a2
      go_wp2
      have HB : Hid (Below w.heap.size w (wr.alloc (.cells #[.int .i64 p, .int .i64 q] 30)).drew) := Lib.hid (Rec.below_drew HB.out)
      have HO : Hid (Strs.Own (wr.alloc (.cells #[.int .i64 p, .int .i64 q] 30)).drew w.heap.size u3 m) := Lib.hid HO.out
      have HX : Hid ((wr.alloc (.cells #[.int .i64 p, .int .i64 q] 30)).drew.cell? ⟨wr.heap.size, 0, none⟩ = some (.int .i64 p) ∧ (wr.alloc (.cells #[.int .i64 p, .int .i64 q] 30)).drew.cell? ⟨wr.heap.size, 1, none⟩ = some (.int .i64 q)) := Lib.hid HX.out
      have b0 := HX.out.1
      have b1 := HX.out.2
      have HC : Hid (∀ U U' : World, U.cell? ⟨wr.heap.size, 0, none⟩ = some (.int .i64 p) ∧ U.cell? ⟨wr.heap.size, 1, none⟩ = some (.int .i64 q) → Below U.heap.size U U' → U'.cell? ⟨wr.heap.size, 0, none⟩ = some (.int .i64 p) ∧ U'.cell? ⟨wr.heap.size, 1, none⟩ = some (.int .i64 q)) := Lib.hid (fun U U' h hb => ⟨(hb.cell (p := ⟨wr.heap.size, 0, none⟩) (Rec.lt_of_cell h.1)).trans h.1, (hb.cell (p := ⟨wr.heap.size, 1, none⟩) (Rec.lt_of_cell h.2)).trans h.2⟩)
      clear c0 c1 lp lq
      go_region_law (first
        | (refine step_append_lies _ (by rfl) (.tmp 17) (.tmp 26) 41 (by rfl) w.heap.size 9 i0 (.string ⟨#[]⟩) 1 16 Tryz.underlying41 hi hz0 hz1 hz2 (by rfl) (by decide) _ _ _ (by rfl) (HO.out.alloc _) ⟨wz.heap.size, 0, none⟩ 1 1 [Strs.sv t] (by rfl) (by rfl) (Strs.news_one _ _ _) (Strs.sv_one t) (by decide) (by have := HML.out; unfold maxLen; omega) (by have := HML.out; omega) (by have := HB.out.size; simp; omega) _ rfl ?_; intro g gcap w4 hown1 hgrow hat hglt)
        | (go_simp; go_at_call 38; (with_reducible refine (HP.out _).mono ?_); rintro e wq ⟨rfl, bq⟩; clear b0 b1; have HO := Lib.hid (Rec.row_below HO.out bq); have HB := Lib.hid (Base.then_below HB.out bq); have HX := Lib.hid (HC.out _ _ HX.out bq); have b0 := HX.out.1; have b1 := HX.out.2; clear bq)
        | (go_simp; go_at_call 38; (with_reducible refine (HQ.out _).mono ?_); rintro e wz ⟨rfl, bq⟩; clear b0 b1; have HO := Lib.hid (Rec.row_below HO.out bq); have HB := Lib.hid (Base.then_below HB.out bq); have HX := Lib.hid (HC.out _ _ HX.out bq); have b0 := HX.out.1; have b1 := HX.out.2; clear bq))
      all_goals (
        have R := Lib.hid (Strs.push_own (a := w) (x := t) HO.out HB.out (Nat.le_refl _) hown1 hgrow)
        clear hown1 hgrow hat hglt b0 b1
        go_wp2
        go_roundw
        case rel => exact ⟨k + 1, by omega, by go_num, by rw [HM.out]; exact R.out.1, R.out.2⟩
        case measure => simp [intOf]; omega)
    · have HT : Hid (l.take k = l) := Lib.hid (List.take_of_length_le (by omega))
      rw [HT.out] at HO
      have HJ := Lib.hid (Tx.spec_join u3 wr.heap.size (fal l) wr (Strs.own_holds HO.out) HTT.out.1)
      have HE : Hid (frng l = [98, 121, 116, 101, 115, 61] ++ Tx.join (fal l)) := Lib.hid rfl
      have a1 := Tx.addtwo [98, 121, 116, 101, 115, 61] (Tx.join (fal l)) (by have := HTT.out.2; simp only [List.length_cons, List.length_nil]; omega)
      unfold Tx.JoinEnd at HJ
      generalize Tx.join (fal l) = jn at HJ HE a1
      generalize [98, 121, 116, 101, 115, 61] ++ jn = z at HE a1
      clear HT hb HO
      go_wp2_with (fail)
      go_at_call 39
      refine HJ.out.mono ?_
      rintro e w2 ⟨rfl, bq⟩
      have HB := Lib.hid (Base.then_below HB.out bq)
      clear bq
      go_wp2
      go_ret
      exact ⟨ret_txt HE.out.symm, HB.out⟩

set_option maxHeartbeats 2000000 in
theorem impl_fa (p q : Int) (w : World) (hp : In64 p) (hq : In64 q) (ht : Fmt.Tens w) :
    Calls Tryz.prog 24 #[.agg #[.int .i64 p, .int .i64 q]] w (TxtEnd (fa p q) w) := by
  have HS := Lib.hid (crs_start w p q 30)
  have HT : Hid (∀ u, CrS w p q u → Fmt.Tens u) := Lib.hid (fun u h => Fmt.tens_below ht h.2)
  have HP := Lib.hid (fun W (hW : Fmt.Tens W) => Fmt.impl_fmt p hp.1 hp.2 W hW)
  have HQ := Lib.hid (fun W (hW : Fmt.Tens W) => Fmt.impl_fmt q hq.1 hq.2 W hW)
  have lp := il hp
  have lq := il hq
  clear hp hq ht
  unfold TxtEnd
  by_cases h1 : p < 0
  · have HE := Lib.hid (fa_neg (q := q) h1)
    generalize Lib.itoa q = sq at HE HQ lq
    have a1 := Tx.addtwo [45] sq (by simp only [List.length_append, List.length_cons, List.length_nil]; omega)
    generalize [45] ++ sq = t at HE a1
    clear lp lq
    go_enter Tryz.func24, Tryz.ntmps24
    go_wp2_with (fail)
    go_at_call 33
    refine (HQ.out _ (HT.out _ HS.out)).mono ?_
    rintro e w2 ⟨rfl, bq⟩
    have HB := Lib.hid (Base.then_below HS.out.2 bq)
    clear bq
    go_wp2
    go_ret
    exact ⟨ret_txt HE.out.symm, HB.out⟩
  by_cases h2 : q < 0
  · have HE := Lib.hid (fa_open h1 h2)
    generalize Lib.itoa p = sp at HE HP lp
    have a1 := Tx.addtwo sp [45] (by simp only [List.length_append, List.length_cons, List.length_nil]; omega)
    generalize sp ++ [45] = t at HE a1
    clear lp lq
    go_enter Tryz.func24, Tryz.ntmps24
    go_wp2_with (fail)
    go_at_call 33
    refine (HP.out _ (HT.out _ HS.out)).mono ?_
    rintro e w2 ⟨rfl, bq⟩
    have HB := Lib.hid (Base.then_below HS.out.2 bq)
    clear bq
    go_wp2
    go_ret
    exact ⟨ret_txt HE.out.symm, HB.out⟩
  have HE := Lib.hid (fa_both h1 h2)
  generalize Lib.itoa p = sp at HE HP lp
  generalize Lib.itoa q = sq at HE HQ lq
  have a1 := Tx.addtwo sp [45] (by simp only [List.length_append, List.length_cons, List.length_nil]; omega)
  have a2 := Tx.addtwo (sp ++ [45]) sq (by simp only [List.length_append, List.length_cons, List.length_nil]; omega)
  generalize sp ++ [45] = t1 at HE a1 a2
  generalize t1 ++ sq = t at HE a2
  have HSD := Lib.hid (crs_drew HS.out)
  have SK : Hid (∀ w0 w1 : World, CrS w p q w0 → Below w0.heap.size w0 w1 → CrS w p q w1) := Lib.hid (fun _ _ h hb => crs_call h hb)
  have f0 : ∀ u : RegS.In (CrS w p q), u.w.cell? ⟨w.heap.size, 0, none⟩ = some (.int .i64 p) := fun u => u.h.1.1
  have f1 : ∀ u : RegS.In (CrS w p q), u.w.cell? ⟨w.heap.size, 1, none⟩ = some (.int .i64 q) := fun u => u.h.1.2
  have HPW : Hid (∀ u : RegS.In (CrS w p q), Calls Tryz.prog 33 #[.int .i64 p] u.w fun e w' => e = .returned (.string ⟨sp.toArray⟩) ∧ Below u.w.heap.size u.w w') := Lib.hid (fun u => HP.out u.w (HT.out _ u.h))
  have HQW : Hid (∀ u : RegS.In (CrS w p q), Calls Tryz.prog 33 #[.int .i64 q] u.w fun e w' => e = .returned (.string ⟨sq.toArray⟩) ∧ Below u.w.heap.size u.w w') := Lib.hid (fun u => HQ.out u.w (HT.out _ u.h))
  clear lp lq
  go_enter Tryz.func24, Tryz.ntmps24
  go_wp2
  refine RegS.region (CrS w p q) (by kernel_rfl) (by kernel_rfl) HSD.out ?_
  haveI : Nonempty (RegS.In (CrS w p q)) := ⟨⟨_, HSD.out⟩⟩
  repeat (first | go_big_quiet_step ((first | (go_at_call 33; with_reducible exact RegS.call (HPW.out _) (fun e w' he => ⟨he.1, SK.out _ _ (RegS.In.h _) he.2⟩)) | (go_at_call 33; with_reducible exact RegS.call (HQW.out _) (fun e w' he => ⟨he.1, SK.out _ _ (RegS.In.h _) he.2⟩)))) | quiet_step (fail))
  refine wpQuiet_nil ?_
  intro wz hw'
  obtain ⟨⟨wq, hS⟩, hw''⟩ := hw'
  subst hw''
  have HBB := Lib.hid hS.2
  clear hS
  go_wp2
  go_ret
  exact ⟨ret_txt HE.out.symm, HBB.out⟩

set_option maxRecDepth 1000000 in
set_option maxHeartbeats 4000000 in
theorem impl_frng (v : Value) (B : Nat) (l : List Asks.T) (w : World) (h : Asks.Holds w B v l) (hB : B ≤ w.heap.size) (hl : l.length ≤ 1048576) (hok : ∀ a ∈ l, Asks.Ok a) (ht : Fmt.Tens w) :
    Calls Tryz.prog 8 #[v] w (TxtEnd (frng l) w) := by
  obtain ⟨i0, hi, hz0, hz1, hz2⟩ := info_parts Strs.info_str
  have HTT := Lib.hid (fal_tot hl hok)
  have HOK := Lib.hid hok
  have HTN := Lib.hid (fun W (hb : Below w.heap.size w W) => Fmt.tens_below ht hb)
  obtain ⟨a, cap, rfl, ha⟩ := shape h
  have HA := Lib.hid ha
  have HO := Lib.hid (Strs.own_lit_nil w)
  have HB := Lib.hid ((Below.refl w.heap.size w).alloc (Nat.le_refl _) (.cells #[] 9))
  clear ha h hok ht
  go_enter Tryz.func8, Tryz.ntmps8
  go_wp2
  go_loopw [3, 9] (fun u i wr => ∃ k : Nat, k ≤ l.length ∧ i = .int .i64 (k : Int) ∧ wr.ownsRow w.heap.size 9 1 u (fal (l.take k)).length (Strs.svs (fal (l.take k))) ∧ Below w.heap.size w wr) (fun _ i _ => l.length - (intOf i).toNat)
  case atStart => exact ⟨0, Nat.zero_le _, rfl, HO.out, HB.out⟩
  case round =>
    clear HO HB
    obtain ⟨k, hk, rfl, hown, hb⟩ := hrel
    have HB := Lib.hid hb
    have HO := Lib.hid hown
    have HML := Lib.hid (fal_take_len l k)
    clear hown
    by_cases hlt : k < l.length
    · obtain ⟨b, off, rfl, hbw, hcap, hc⟩ := HA.out (by omega)
      obtain ⟨c0, c1⟩ := Asks.at_cells (Asks.at_below hc hb (Nat.lt_of_lt_of_le hbw hB)) hlt
      have HM := Lib.hid (fal_more hlt)
      obtain ⟨hp, hq⟩ : In64 (l.getD k Asks.nov).1 ∧ In64 (l.getD k Asks.nov).2 := HOK.out _ (Rec.getD_mem (z := Asks.nov) hlt)
      clear hb hc
      generalize l.getD k Asks.nov = s at c0 c1 HM hp hq
      obtain ⟨p, q⟩ := s
      simp only at c0 c1 HM hp hq
      generalize fal (l.take k) = m at HO HML HM
      have HA2 : Hid (Below wr.heap.size wr (wr.alloc (.cells #[.int .i64 p, .int .i64 q] 30))) := Lib.hid ((Below.refl _ _).alloc (Nat.le_refl _) _)
      have HO := Lib.hid (Rec.row_below HO.out HA2.out)
      have HB := Lib.hid (Base.then_below HB.out HA2.out)
      have HF := Lib.hid (impl_fa p q _ hp hq (HTN.out _ HB.out))
      unfold TxtEnd at HF
      generalize fa p q = t at HM HF
      clear HA2 hp hq
      go_wp2_with (fail)
      go_at_call 24
      refine HF.out.mono ?_
      rintro e w2 ⟨rfl, bq⟩
      have hown := Rec.row_below HO.out bq
      have HB := Lib.hid (Base.then_below HB.out bq)
      have hbz := HB.out.size
      clear bq HO c0 c1
      go_wp2_with (at_builtin; go_loud (refine wpList_append_own _ rfl (.tmp 13) (.tmp 16) 41 rfl w.heap.size 9 i0 (.string ⟨#[]⟩) 1 16 Tryz.underlying41 hi hz0 hz1 hz2 rfl (by decide) _ _ _ rfl (hown.alloc _) ⟨w2.heap.size, 0, none⟩ 1 1 [Strs.sv t] rfl rfl (Strs.news_one _ _ _) (Strs.sv_one t) (by have := HML.out; unfold maxLen; first | omega | (simp; omega) | (simp; done)) (by have := HML.out; first | omega | (simp; omega) | (simp; done)) (by first | omega | (simp; omega) | (simp; done)) ?_; intro v1 w4 hown1 hg1 _))
      have R := Lib.hid (Strs.push_own (a := w) (x := t) hown HB.out (Nat.le_refl _) hown1 hg1)
      clear hown hown1 hg1
      go_wp2
      go_roundw
      case rel => exact ⟨k + 1, by omega, by go_num, by rw [HM.out]; exact R.out.1, R.out.2⟩
      case measure => simp [intOf]; omega
    · have HT : Hid (l.take k = l) := Lib.hid (List.take_of_length_le (by omega))
      rw [HT.out] at HO
      have HJ := Lib.hid (Tx.impl_join u3 wr.heap.size (fal l) wr (Strs.own_holds HO.out) HTT.out.1)
      have HE : Hid (frng l = [98, 121, 116, 101, 115, 61] ++ Tx.join (fal l)) := Lib.hid rfl
      have a1 := Tx.addtwo [98, 121, 116, 101, 115, 61] (Tx.join (fal l)) (by have := HTT.out.2; simp only [List.length_cons, List.length_nil]; omega)
      unfold Tx.JoinEnd at HJ
      generalize Tx.join (fal l) = jn at HJ HE a1
      generalize [98, 121, 116, 101, 115, 61] ++ jn = z at HE a1
      clear HT hb HO
      go_wp2_with (fail)
      go_at_call 25
      refine HJ.out.mono ?_
      rintro e w2 ⟨rfl, bq⟩
      have HB := Lib.hid (Base.then_below HB.out bq)
      clear bq
      go_wp2
      go_ret
      exact ⟨ret_txt HE.out.symm, HB.out⟩
end Go.Proofs.YtobhdfkhfmpdlaaGreatDoor.Rng
