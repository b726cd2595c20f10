/-
  CONTRACTS AND PLAIN FACTS, several texts in one; each says in its own words what it proves.
-/
import Derived.Test.YtfkejnbkglaokaaGreatDoorPartM
import Derived.Test.YtfkejnbkglaokaaGreatDoorPartN
import Derived.Test.YtfkejnbkglaokaaGreatDoorPartK
import Derived.Test.YtfkejnbkglaokaaGreatDoorPartJ
import Derived.Test.YtfkejnbkglaokaaGreatDoorPartI
import Derived.Test.YtfkejnbkglaokaaGreatDoorPartD
import Derived.RegionTactic
import Derived.Test.YtfkejnbkglaokaaGreatDoorPartC
import Derived.LoopTactic
import Derived.Outline
import Derived.Deep.SlicePairs
import Derived.Deep.RegionWith
set_option linter.unusedSimpArgs false
set_option linter.unusedVariables false

/-
  CONTRACTS of the program's ParseRequest and ParseResponse at the text of a good message, and at the empty text; nothing that was there before is changed.
-/
namespace Go.Proofs.YtfkejnbkglaokaaGreatDoor.Msg
open Go Go.RowKit
set_option linter.unusedVariables false
set_option maxRecDepth 1000000
set_option maxRecDepth 1000000

def crlf4 : List UInt8 := [13, 10, 13, 10]
theorem cut_crlf4 (r hd body : List UInt8) (z : Bool) (W : World) (hl : r.length ≤ 1048576) (hm : Sh.MxL W) (h : Lib.cut r [13, 10, 13, 10] = (hd, body, z)) : Calls Tryz.prog 28 #[.string ⟨r.toArray⟩, .string ⟨#[13, 10, 13, 10]⟩] W fun e w' => e = .returned (.tuple #[.string ⟨hd.toArray⟩, .string ⟨body.toArray⟩, .bool z]) ∧ Below W.heap.size W w' := by
  obtain ⟨_, m, hc⟩ := hm
  refine (Tryz.strings_Cut ⟨r.toArray⟩ ⟨#[13, 10, 13, 10]⟩ m W (by simp [ByteArray.size]; omega) hc).mono ?_
  rintro e w' ⟨he, n, rfl⟩
  refine ⟨?_, Tx.below_drewN' (Below.refl _ _) _⟩
  have h' : Lib.cut (⟨r.toArray⟩ : ByteArray).data.toList (⟨#[13, 10, 13, 10]⟩ : ByteArray).data.toList = (hd, body, z) := h
  rw [h'] at he
  exact he
theorem cut_crlf2 (r hd body : List UInt8) (z : Bool) (W : World) (hl : r.length ≤ 1048576) (hm : Sh.MxL W) (h : Lib.cut r [13, 10] = (hd, body, z)) : Calls Tryz.prog 28 #[.string ⟨r.toArray⟩, .string ⟨#[13, 10]⟩] W fun e w' => e = .returned (.tuple #[.string ⟨hd.toArray⟩, .string ⟨body.toArray⟩, .bool z]) ∧ Below W.heap.size W w' := by
  have := Flds.cut_two r W hl hm
  unfold Flds.ln at this
  rw [h] at this
  exact this
theorem cut_space (r a b : List UInt8) (z : Bool) (W : World) (hl : r.length ≤ 1048576) (h : Tx.cutAt 32 r = (a, b, z)) : Calls Tryz.prog 28 #[.string ⟨r.toArray⟩, .string ⟨#[32]⟩] W fun e w' => e = .returned (.tuple #[.string ⟨a.toArray⟩, .string ⟨b.toArray⟩, .bool z]) ∧ Below W.heap.size W w' := by
  have := Tx.cut_any ⟨r.toArray⟩ 32 W (by simp [ByteArray.size]; omega)
  unfold Tx.CutEnd at this
  have h' : Tx.cutAt 32 (⟨r.toArray⟩ : ByteArray).data.toList = (a, b, z) := h
  rw [h'] at this
  exact this
theorem pfr_i (l : List UInt8) (m : List Flds.Fld) (z : Bool) (w : World) (hl : l.length ≤ 1048576) (hm : Sh.MxL w) (h : Flds.pfr l = (m, z)) :
    Calls Tryz.prog 51 #[.string ⟨l.toArray⟩] w fun e w' => ∃ v, e = .returned (.tuple #[v, .bool z]) ∧ Flds.Own w' w.heap.size v m ∧ Below w.heap.size w w' := by
  have := Flds.impl_pfr l w hl hm
  unfold Flds.PfrEnd at this
  rw [h] at this
  exact this

set_option maxHeartbeats 2000000 in
theorem impl_split (s hd body x0 ln : List UInt8) (en z ok : Bool) (fs : List Flds.Fld) (w : World) (hs : s.length ≤ 1000000) (hh : hd.length ≤ 1000000) (hn : ln.length ≤ 1000000) (hm : Sh.MxL w)
    (c1 : Lib.cut s [13, 10, 13, 10] = (hd, body, en)) (c2 : Lib.cut (hd ++ [13, 10]) [13, 10] = (x0, ln, z)) (c3 : Flds.pfr ln = (fs, ok)) :
    Calls Tryz.prog 27 #[.string ⟨s.toArray⟩] w fun e w' => ∃ v, e = .returned (.tuple #[.string ⟨x0.toArray⟩, v, .string ⟨body.toArray⟩, .bool (en && ok)]) ∧ Flds.Own w' w.heap.size v fs ∧ Below w.heap.size w w' := by
  have HC1 := Lib.hid (cut_crlf4 s hd body en w (by omega) hm c1)
  have a1 := Tx.addtwo hd [13, 10] (by simp only [List.length_cons, List.length_nil]; omega)
  have hl1 : (hd ++ [13, 10]).length ≤ 1048576 := by simp only [List.length_append, List.length_cons, List.length_nil]; omega
  have HC2 := Lib.hid (fun W (hb : Below w.heap.size w W) => cut_crlf2 (hd ++ [13, 10]) x0 ln z W hl1 (Sh.mxl_below hm hb) c2)
  have HC3 := Lib.hid (fun W (hb : Below w.heap.size w W) => pfr_i ln fs ok W (by omega) (Sh.mxl_below hm hb) c3)
  generalize hd ++ [13, 10] = h2 at a1 HC2
  clear c1 c2 c3 hm hs hh hn hl1
  go_enter Tryz.func27, Tryz.ntmps27
  go_wp2_with (fail)
  go_at_call 28
  refine HC1.out.mono ?_
  rintro e w1 ⟨rfl, b1⟩
  have H2 := Lib.hid (HC2.out w1 b1)
  have B1 := Lib.hid b1
  clear b1 HC1 HC2
  go_wp2_with (fail)
  go_at_call 28
  refine H2.out.mono ?_
  rintro e w2 ⟨rfl, b2⟩
  have B2 := Lib.hid (Base.then_below B1.out b2)
  have H3 := Lib.hid (HC3.out w2 B2.out)
  clear b2 B1 H2 HC3
  go_wp2_with (fail)
  go_at_call 51
  refine H3.out.mono ?_
  rintro e w3 ⟨v, rfl, ov, b3⟩
  have B3 := Lib.hid (Base.then_below B2.out b3)
  have HO := Lib.hid (Flds.own_mono ov (B' := w.heap.size) B2.out.size)
  clear b3 B2 H3 ov
  cases en with
  | true =>
    go_wp2
    refine bodyPost_ret (v := .tuple #[.string ⟨x0.toArray⟩, v, .string ⟨body.toArray⟩, .bool ok]) (by simp [results, Tryz.results27, go_sem]) rfl ?_
    exact ⟨v, by simp, HO.out, B3.out⟩
  | false =>
    go_wp2
    refine bodyPost_ret (v := .tuple #[.string ⟨x0.toArray⟩, v, .string ⟨body.toArray⟩, .bool false]) (by simp [results, Tryz.results27, go_sem]) rfl ?_
    exact ⟨v, by simp, HO.out, B3.out⟩
theorem cut_nil : Lib.cut [] [13, 10, 13, 10] = ([], [], false) ∧ Lib.cut ([] ++ [13, 10]) [13, 10] = ([], [], true) ∧ Flds.pfr [] = ([], true) := ⟨by decide, by decide, by rw [Flds.pfr_yes Flds.PF_nil (by decide)]⟩

/-! what is behind the first field *-/
theorem tail_holds {w : World} {B g cap : Nat} {f : Flds.Fld} {l : List Flds.Fld} (h : Flds.Own w B (.slice (some ⟨g, 0, none⟩) (l.length + 1) cap) (f :: l)) :
    Flds.Holds w w.heap.size (.slice (if cap = 1 then some ⟨g, 0, none⟩ else some ⟨g, 2, none⟩) l.length (cap - 1)) l := by
  have hh := Flds.own_holds h
  rcases hh with ⟨h0, _⟩ | ⟨h0, b, off, cp, e, hb, hc, hat⟩
  · cases h0
  · cases e
    by_cases hl : l.length = 0
    · rw [List.eq_nil_of_length_eq_zero hl]; exact Or.inl ⟨rfl, _, _, rfl⟩
    · rw [if_neg (by simp at hc; omega)]
      refine Or.inr ⟨by omega, g, 2, cap - 1, rfl, hb, by simp at hc; omega, fun j hj => ?_⟩
      have h2 := hat (j + 1) (by simp; omega)
      rw [show 0 + (j + 1) * 2 = 2 + j * 2 by omega] at h2
      simpa using h2
theorem init_holds {w : World} {B g cap : Nat} {f : Flds.Fld} {l : List Flds.Fld} (h : Flds.Own w B (.slice (some ⟨g, 0, none⟩) (l.length + 1) cap) (l ++ [f])) :
    Flds.Holds w w.heap.size (.slice (some ⟨g, 0, none⟩) l.length cap) l := by
  have hh := Flds.own_holds h
  have hz : (l ++ [f]).length = l.length + 1 := by simp
  rcases hh with ⟨h0, _⟩ | ⟨h0, b, off, cp, e, hb, hc, hat⟩
  · simp at h0
  · rw [hz] at e hc
    cases e
    by_cases hl : l.length = 0
    · rw [List.eq_nil_of_length_eq_zero hl]; exact Or.inl ⟨rfl, _, _, rfl⟩
    · refine Or.inr ⟨by omega, g, 0, cap, rfl, hb, by omega, fun j hj => ?_⟩
      have h2 := hat j (by rw [hz]; omega)
      have e3 : (l ++ [f]).getD j Flds.nofld = l.getD j Flds.nofld := by simp [List.getD, List.getElem?_append_left hj]
      rw [e3] at h2
      exact h2
theorem last_at {w : World} {B g cap : Nat} {f : Flds.Fld} {l : List Flds.Fld} (h : Flds.Own w B (.slice (some ⟨g, 0, none⟩) (l.length + 1) cap) (l ++ [f])) :
    w.cell? ⟨g, l.length * 2, none⟩ = some (Flds.sv f.1) ∧ w.cell? ⟨g, l.length * 2 + 1, none⟩ = some (Flds.sv f.2) := by
  have hz : (l ++ [f]).length = l.length + 1 := by simp
  have h' : w.ownsRow B 48 2 (.slice (some ⟨g, 0, none⟩) (l.length + 1) cap) (l.length + 1) (Flds.fcs (l ++ [f])) := by have h9 := h; unfold Flds.Own at h9; rw [hz] at h9; exact h9
  obtain ⟨h1, h2⟩ := Flds.own_cell (g := g) h' (j := l.length) (by omega)
  have e3 : (l ++ [f]).getD l.length Flds.nofld = f := by simp [List.getD]
  rw [e3] at h1 h2
  exact ⟨h1, h2⟩
theorem gbset (w : World) (c o : Nat) (v : Value) : w.grownBy (w.setCell ⟨c, o, none⟩ v) (some c) :=
  ⟨rfl, rfl, rfl, by simp [World.setCell], fun k hk hn => Below.heap_setCell _ _ _ _ (fun e => hn (by rw [e]))⟩
theorem own_set {w : World} {B n g o : Nat} {v u : Value} {xs : List Value} {T : TypeId} {s : Nat} (h : w.ownsRow B T s v n xs) (hne : ∀ k, v.ownBlock = some k → k ≠ g) : (w.setCell ⟨g, o, none⟩ u).ownsRow B T s v n xs :=
  h.kept (gbset w g o u) (Or.inr (fun e => hne g e rfl))
theorem z4 {w : World} {g : Nat} {a b c d : Value} {T : TypeId} (h : w.heap[g]? = some (.cells #[a, b, c, d] T (0, 0))) :
    (w.cell? ⟨g, 0, none⟩ = some a ∧ w.cell? ⟨g, 1, none⟩ = some b ∧ w.cell? ⟨g, 2, none⟩ = some c ∧ w.cell? ⟨g, 3, none⟩ = some d) ∧ (w.frozen? ⟨g, 0, none⟩ = false ∧ w.frozen? ⟨g, 1, none⟩ = false ∧ w.frozen? ⟨g, 2, none⟩ = false ∧ w.frozen? ⟨g, 3, none⟩ = false) := by
  simp [World.cell?, World.frozen?, h]
theorem z3 {w : World} {g : Nat} {a b c : Value} {T : TypeId} (h : w.heap[g]? = some (.cells #[a, b, c] T (0, 0))) :
    (w.cell? ⟨g, 0, none⟩ = some a ∧ w.cell? ⟨g, 1, none⟩ = some b ∧ w.cell? ⟨g, 2, none⟩ = some c) ∧ (w.frozen? ⟨g, 0, none⟩ = false ∧ w.frozen? ⟨g, 1, none⟩ = false ∧ w.frozen? ⟨g, 2, none⟩ = false) := by
  simp [World.cell?, World.frozen?, h]
theorem hb_at {W w' : World} {g : Nat} {o : Obj} (hW : W.heap[g]? = some o) (hb : Below W.heap.size W w') : w'.heap[g]? = some o := by
  have hlt : g < W.heap.size := by
    rcases Nat.lt_or_ge g W.heap.size with h' | h'
    · exact h'
    · simp [Array.getElem?_eq_none h'] at hW
  exact (hb.block g hlt).trans hW
theorem hb_new (w : World) (a : Array Value) (T : TypeId) : (w.alloc (.cells a T)).heap[w.heap.size]? = some (.cells a T (0, 0)) := by
  show (w.heap.push _)[w.heap.size]? = _; simp
def GS (wr u : World) : Prop := Below wr.heap.size wr u
theorem gs_call {wr w0 w1 : World} (h : GS wr w0) (hb : Below w0.heap.size w0 w1) : GS wr w1 := Base.then_below h hb
theorem gs_cell {wr u : World} {b o : Nat} {x : Value} (h : GS wr u) (hc : wr.cell? ⟨b, o, none⟩ = some x) : u.cell? ⟨b, o, none⟩ = some x := (Below.cell h (p := ⟨b, o, none⟩) (Rec.lt_of_cell hc)).trans hc
theorem set_b {B : Nat} {a w : World} {g k : Nat} (u : Value) (h : Below B a w) (hg : B ≤ g) : Below B a (w.setCell ⟨g, k, none⟩ u) := h.setCell hg _

set_option maxHeartbeats 4000000 in
theorem preq_nil (w : World) (hm : Sh.MxL w) :
    Calls Tryz.prog 7 #[.string ⟨#[]⟩] w fun e w' => e = .returned (.tuple #[.agg #[.string ⟨#[]⟩, .string ⟨#[]⟩, .string ⟨#[]⟩, .slice none 0 0], .bool false]) ∧ Below w.heap.size w w' := by
  have HB0 : Hid (Below w.heap.size w (w.alloc (.cells #[.string ⟨#[]⟩, .string ⟨#[]⟩, .string ⟨#[]⟩, .slice none 0 0] 24))) := Lib.hid ((Below.refl _ _).alloc (Nat.le_refl _) _)
  have HX0 := Lib.hid (hb_new w #[.string ⟨#[]⟩, .string ⟨#[]⟩, .string ⟨#[]⟩, .slice none 0 0] 24)
  have HS := Lib.hid (impl_split [] [] [] [] [] false true true [] (w.alloc (.cells #[.string ⟨#[]⟩, .string ⟨#[]⟩, .string ⟨#[]⟩, .slice none 0 0] 24)) (by decide) (by decide) (by decide) (Sh.mxl_below hm HB0.out) cut_nil.1 cut_nil.2.1 cut_nil.2.2)
  clear hm
  go_enter Tryz.func7, Tryz.ntmps7
  go_wp2_with (fail)
  go_at_call 27
  refine HS.out.mono ?_
  rintro e w1 ⟨v, rfl, ov, b1⟩
  obtain ⟨⟨x0, x1, x2, x3⟩, ⟨f0, f1, f2, f3⟩⟩ := z4 (hb_at HX0.out b1)
  have B1 := Lib.hid (Base.then_below HB0.out b1)
  clear b1 ov HS HX0 HB0
  go_wp2
  refine bodyPost_ret (v := .tuple #[.agg #[.string ⟨#[]⟩, .string ⟨#[]⟩, .string ⟨#[]⟩, .slice none 0 0], .bool false]) (by simp [results, Tryz.results7, go_sem, x0, x1, x2, x3]) rfl ⟨rfl, ?_⟩
  first | exact set_b _ (set_b _ (set_b _ (set_b _ B1.out (Nat.le_refl _)) (Nat.le_refl _)) (Nat.le_refl _)) (Nat.le_refl _) | exact B1.out

set_option maxHeartbeats 4000000 in
theorem prsp_nil (w : World) (hm : Sh.MxL w) :
    Calls Tryz.prog 12 #[.string ⟨#[]⟩] w fun e w' => e = .returned (.tuple #[.agg #[.int .i64 0, .slice none 0 0, .string ⟨#[]⟩], .bool false]) ∧ Below w.heap.size w w' := by
  have HB0 : Hid (Below w.heap.size w (w.alloc (.cells #[.int .i64 0, .slice none 0 0, .string ⟨#[]⟩] 31))) := Lib.hid ((Below.refl _ _).alloc (Nat.le_refl _) _)
  have HX0 := Lib.hid (hb_new w #[.int .i64 0, .slice none 0 0, .string ⟨#[]⟩] 31)
  have HS := Lib.hid (impl_split [] [] [] [] [] false true true [] (w.alloc (.cells #[.int .i64 0, .slice none 0 0, .string ⟨#[]⟩] 31)) (by decide) (by decide) (by decide) (Sh.mxl_below hm HB0.out) cut_nil.1 cut_nil.2.1 cut_nil.2.2)
  clear hm
  go_enter Tryz.func12, Tryz.ntmps12
  go_wp2_with (fail)
  go_at_call 27
  refine HS.out.mono ?_
  rintro e w1 ⟨v, rfl, ov, b1⟩
  obtain ⟨⟨x0, x1, x2⟩, ⟨f0, f1, f2⟩⟩ := z3 (hb_at HX0.out b1)
  have B1 := Lib.hid (Base.then_below HB0.out b1)
  clear b1 ov HS HX0 HB0
  go_wp2
  refine bodyPost_ret (v := .tuple #[.agg #[.int .i64 0, .slice none 0 0, .string ⟨#[]⟩], .bool false]) (by simp [results, Tryz.results12, go_sem, x0, x1, x2]) rfl ⟨rfl, ?_⟩
  first | exact set_b _ (set_b _ (set_b _ B1.out (Nat.le_refl _)) (Nat.le_refl _)) (Nat.le_refl _) | exact B1.out

theorem x0_ne (m t : List UInt8) : m ++ 32 :: (t ++ 32 :: proto) ≠ [] := by simp
set_option maxHeartbeats 8000000 in
theorem preq_txt (m h t : List UInt8) (l : List Flds.Fld) (w : World) (hr : reqOk m h t l = true) (hl : Flds.total l ≤ 10000) (hm : m.length ≤ 1000) (hh : h.length ≤ 1000) (ht : t.length ≤ 1000) (hmx : Sh.MxL w) :
    Calls Tryz.prog 7 #[.string ⟨(reqTxt m h t l).toArray⟩] w fun e w' => ∃ a cap, e = .returned (.tuple #[.agg #[.string ⟨m.toArray⟩, .string ⟨h.toArray⟩, .string ⟨t.toArray⟩, .slice a l.length cap], .bool true]) ∧ Flds.Holds w' w'.heap.size (.slice a l.length cap) l ∧ Below w.heap.size w w' := by
  have P := req_parts hr
  obtain ⟨hd, c1, c2, c3⟩ := split_ok [] P.first (x0_ne m t) P.flds
  rw [← req_text m h t l] at c1
  have hfl : (Flds.fmt ((hostName, h) :: l)).length ≤ 100000 := by
    have h1 := Flds.fmt_len ((hostName, h) :: l) ((hostName, h) :: l).length (Nat.le_refl _)
    have h2 := Flds.pre_le ((hostName, h) :: l) ((hostName, h) :: l).length
    have h3 : Flds.total ((hostName, h) :: l) = Flds.total l + (4 + h.length) + 1 := by unfold Flds.total Flds.wt hostName; simp; omega
    have h4 : l.length ≤ Flds.total l := by unfold Flds.total; omega
    rw [List.take_length] at h1
    rw [List.length_cons] at h1 h2
    omega
  have htl : (reqTxt m h t l).length ≤ 200000 := by
    rw [req_text, T_cons, ← fmt_T]
    simp only [List.length_append, List.length_cons, List.length_nil]
    have : proto.length = 8 := rfl
    omega
  have hdl : hd.length ≤ 200000 := by
    have h1 := Flds.ln_len (s := hd ++ [13, 10]) (by unfold Flds.ln; rw [c2])
    have h2 : (Flds.ln (hd ++ [13, 10])) = (m ++ 32 :: (t ++ 32 :: proto), Flds.fmt ((hostName, h) :: l), true) := c2
    rw [h2] at h1
    dsimp only at h1
    have : proto.length = 8 := rfl
    simp only [List.length_append, List.length_cons, List.length_nil] at h1
    omega
  have HB0 : Hid (Below w.heap.size w (w.alloc (.cells #[.string ⟨#[]⟩, .string ⟨#[]⟩, .string ⟨#[]⟩, .slice none 0 0] 24))) := Lib.hid ((Below.refl _ _).alloc (Nat.le_refl _) _)
  have HX0 := Lib.hid (hb_new w #[.string ⟨#[]⟩, .string ⟨#[]⟩, .string ⟨#[]⟩, .slice none 0 0] 24)
  have hs0 : (w.alloc (.cells #[.string ⟨#[]⟩, .string ⟨#[]⟩, .string ⟨#[]⟩, .slice none 0 0] 24)).heap.size = w.heap.size + 1 := by simp
  have HS := Lib.hid (impl_split _ hd [] _ _ true true true _ (w.alloc (.cells #[.string ⟨#[]⟩, .string ⟨#[]⟩, .string ⟨#[]⟩, .slice none 0 0] 24)) (by omega) (by omega) (by omega) (Sh.mxl_below hmx HB0.out) c1 c2 c3)
  have HC4 := Lib.hid (fun W => cut_space (m ++ 32 :: (t ++ 32 :: proto)) m (t ++ 32 :: proto) true W (by have : proto.length = 8 := rfl; simp only [List.length_append, List.length_cons]; omega) (cut_sp _ P.sp))
  have HC5 : Hid (∀ W, Calls Tryz.prog 29 #[.string ⟨(t ++ 32 :: proto).toArray⟩, .string ⟨#[32, 72, 84, 84, 80, 47, 49, 46, 49]⟩] W fun e w' => e = .returned (.tuple #[.string ⟨t.toArray⟩, .bool true]) ∧ w' = W) := Lib.hid (fun W => by
    have h1 := Tryz.strings_CutSuffix ⟨(t ++ 32 :: proto).toArray⟩ ⟨#[32, 72, 84, 84, 80, 47, 49, 46, 49]⟩ W (by have : proto.length = 8 := rfl; simp [ByteArray.size]; omega)
    have h2 := cut_suf t (32 :: proto)
    have e1 : (⟨(t ++ 32 :: proto).toArray⟩ : ByteArray).data.toList = t ++ 32 :: proto := rfl
    have e2 : (⟨#[32, 72, 84, 84, 80, 47, 49, 46, 49]⟩ : ByteArray).data.toList = 32 :: proto := rfl
    rw [e1, e2, h2.1, h2.2] at h1
    exact h1)
  have HV := Lib.hid (fun (W : World) a cap (hf : Flds.Holds W W.heap.size (.slice a l.length cap) l) => impl_valid_req m h t (.slice a l.length cap) W.heap.size l W hf (Nat.le_refl _) (by omega) (by omega) (by omega) (by omega))
  rw [hr] at HV
  unfold BoolEnd at HV
  generalize m ++ 32 :: (t ++ 32 :: proto) = y0 at HS HC4
  generalize t ++ 32 :: proto = y1 at HC4 HC5
  generalize reqTxt m h t l = tx at HS
  have hll : l.length ≤ 10000 := by unfold Flds.total at hl; omega
  have HSZ := Lib.hid hs0
  clear P c1 c2 c3 hfl htl hdl hr hl hm hh ht hmx hs0
  go_enter Tryz.func7, Tryz.ntmps7
  go_wp2_with (fail)
  go_at_call 27
  refine HS.out.mono ?_
  rintro e w1 ⟨v, rfl, ov, b1⟩
  obtain ⟨g, cap, rfl⟩ : ∃ g cap, v = .slice (some ⟨g, 0, none⟩) (l.length + 1) cap := by
    rcases ov.2 with ⟨_, h0⟩ | ⟨g, cap, cur, e, _⟩
    · simp at h0
    · exact ⟨g, cap, e⟩
  have HX1 := Lib.hid (hb_at HX0.out b1)
  have B1 := Lib.hid (Base.then_below HB0.out b1)
  have HO1 := Lib.hid ov
  obtain ⟨q0, q1⟩ := Flds.own_cell (g := g) ov (j := 0) (by simp)
  have qa : w1.cell? ⟨g, 0, none⟩ = some (.string ⟨#[104, 111, 115, 116]⟩) := q0
  clear b1 ov HS HX0 HB0 q0 q1
  go_wp2_with (fail)
  go_at_call 28
  refine (HC4.out _).mono ?_
  rintro e w2 ⟨rfl, b2⟩
  have HX2 := Lib.hid (hb_at HX1.out b2)
  have B2 := Lib.hid (Base.then_below B1.out b2)
  have HO2 := Lib.hid (Flds.row_below HO1.out b2)
  clear b2 HX1 B1 HO1 HC4 qa
  go_wp2_with (fail)
  go_at_call 29
  refine (HC5.out _).mono ?_
  rintro e w3 ⟨rfl, hw⟩
  subst hw
  obtain ⟨q0, q1⟩ := Flds.own_cell (g := g) HO2.out (j := 0) (by simp)
  have qa : w3.cell? ⟨g, 0, none⟩ = some (.string ⟨#[104, 111, 115, 116]⟩) := q0
  have qb : w3.cell? ⟨g, 1, none⟩ = some (.string ⟨h.toArray⟩) := q1
  have hcap : 1 ≤ cap := by
    rcases Flds.own_holds HO2.out with ⟨h0, _⟩ | ⟨_, _, _, _, e, _, hc, _⟩
    · cases h0
    · cases e; simp at hc; omega
  have hg3 : g < w3.heap.size := Flds.lt_of_cell qa
  have HTH := Lib.hid (tail_holds HO2.out)
  have hX2 := HX2.out
  clear q0 q1 HC5
  have HNE : Hid (w.heap.size < w3.heap.size) := Lib.hid (by have h1 := (HO2.out.lt g rfl).1; rw [HSZ.out] at h1; omega)
  have HNG : Hid (∀ k, (Value.slice (some ⟨g, 0, none⟩) (l.length + 1) cap).ownBlock = some k → k ≠ w.heap.size) := Lib.hid (fun k e => by have h1 := (HO2.out.lt k e).1; rw [HSZ.out] at h1; omega)
  by_cases hc1 : cap = 1
  · have HTV : Hid (Flds.Holds w3 w3.heap.size (.slice (some ⟨g, 0, none⟩) l.length 0) l) := Lib.hid (by have h9 := HTH.out; rw [if_pos hc1, hc1] at h9; exact h9)
    subst hc1
    go_wp2
    go_region
    have HB4 : Hid (Below w3.heap.size w3 (w3.alloc (.cells #[.string ⟨m.toArray⟩, .string ⟨h.toArray⟩, .string ⟨t.toArray⟩, .slice (some ⟨g, 0, none⟩) l.length 0] 24)).drew) := Lib.hid (Rec.below_drew ((Below.refl _ _).alloc (Nat.le_refl _) _))
    have HX4 := Lib.hid (hb_at hX2 HB4.out)
    have HY4 : Hid ((w3.alloc (.cells #[.string ⟨m.toArray⟩, .string ⟨h.toArray⟩, .string ⟨t.toArray⟩, .slice (some ⟨g, 0, none⟩) l.length 0] 24)).drew.heap[w3.heap.size]? = some (.cells #[.string ⟨m.toArray⟩, .string ⟨h.toArray⟩, .string ⟨t.toArray⟩, .slice (some ⟨g, 0, none⟩) l.length 0] 24 (0, 0))) := Lib.hid (hb_new w3 _ _)
    have HV4 := Lib.hid (HV.out _ _ _ (Flds.holds_more (Flds.holds_below HTV.out HB4.out) HB4.out.size))
    have HO4 := Lib.hid (Flds.row_below HO2.out HB4.out)
    have HW4 := Lib.hid (Base.then_below B2.out HB4.out)
    obtain ⟨⟨y0, y1, y2, y3⟩, _⟩ := z4 HY4.out
    clear HV HTH HTV qa qb hX2 HX2 HO2 B2
    go_wp2_with (fail)
    go_at_call 30
    refine HV4.out.mono ?_
    rintro e w5 ⟨rfl, b5⟩
    clear y0 y1 y2 y3
    obtain ⟨⟨y0, y1, y2, y3⟩, _⟩ := z4 (hb_at HY4.out b5)
    obtain ⟨⟨x0, x1, x2, x3⟩, ⟨f0, f1, f2, f3⟩⟩ := z4 (hb_at HX4.out b5)
    have HO5 := Lib.hid (Flds.row_below HO4.out b5)
    have HW5 := Lib.hid (Base.then_below HW4.out b5)
    have hne : w.heap.size ≠ w3.heap.size := by have := HNE.out; omega
    clear b5 HY4 HX4 HV4 HO4 HW4 HB4
    go_wp2
    have HOF := Lib.hid (tail_holds (own_set (g := w.heap.size) (o := 3) (u := .slice (some ⟨g, 0, none⟩) l.length 0) (own_set (g := w.heap.size) (o := 2) (u := .string ⟨t.toArray⟩) (own_set (g := w.heap.size) (o := 1) (u := .string ⟨h.toArray⟩) (own_set (g := w.heap.size) (o := 0) (u := .string ⟨m.toArray⟩) HO5.out HNG.out) HNG.out) HNG.out) HNG.out))
    refine bodyPost_ret (v := .tuple #[.agg #[.string ⟨m.toArray⟩, .string ⟨h.toArray⟩, .string ⟨t.toArray⟩, .slice (some ⟨g, 0, none⟩) l.length 0], .bool true]) (by simp [results, Tryz.results7, go_sem, x0, x1, x2, x3]) rfl ⟨_, _, rfl, ?_, set_b _ (set_b _ (set_b _ (set_b _ HW5.out (Nat.le_refl _)) (Nat.le_refl _)) (Nat.le_refl _)) (Nat.le_refl _)⟩
    have h9 := HOF.out
    first | exact h9 | (rw [if_pos rfl] at h9; exact h9) | (simp only [if_true] at h9; exact h9)
  · have HTV : Hid (Flds.Holds w3 w3.heap.size (.slice (some ⟨g, 2, none⟩) l.length (cap - 1)) l) := Lib.hid (by have h9 := HTH.out; rw [if_neg hc1] at h9; exact h9)
    have HCN := Lib.hid hc1
    go_wp2
    go_region
    have HB4 : Hid (Below w3.heap.size w3 (w3.alloc (.cells #[.string ⟨m.toArray⟩, .string ⟨h.toArray⟩, .string ⟨t.toArray⟩, .slice (some ⟨g, 2, none⟩) l.length (cap - 1)] 24)).drew) := Lib.hid (Rec.below_drew ((Below.refl _ _).alloc (Nat.le_refl _) _))
    have HX4 := Lib.hid (hb_at hX2 HB4.out)
    have HY4 : Hid ((w3.alloc (.cells #[.string ⟨m.toArray⟩, .string ⟨h.toArray⟩, .string ⟨t.toArray⟩, .slice (some ⟨g, 2, none⟩) l.length (cap - 1)] 24)).drew.heap[w3.heap.size]? = some (.cells #[.string ⟨m.toArray⟩, .string ⟨h.toArray⟩, .string ⟨t.toArray⟩, .slice (some ⟨g, 2, none⟩) l.length (cap - 1)] 24 (0, 0))) := Lib.hid (hb_new w3 _ _)
    have HV4 := Lib.hid (HV.out _ _ _ (Flds.holds_more (Flds.holds_below HTV.out HB4.out) HB4.out.size))
    have HO4 := Lib.hid (Flds.row_below HO2.out HB4.out)
    have HW4 := Lib.hid (Base.then_below B2.out HB4.out)
    obtain ⟨⟨y0, y1, y2, y3⟩, _⟩ := z4 HY4.out
    clear HV HTH HTV qa qb hX2 HX2 HO2 B2
    go_wp2_with (fail)
    go_at_call 30
    refine HV4.out.mono ?_
    rintro e w5 ⟨rfl, b5⟩
    clear y0 y1 y2 y3
    obtain ⟨⟨y0, y1, y2, y3⟩, _⟩ := z4 (hb_at HY4.out b5)
    obtain ⟨⟨x0, x1, x2, x3⟩, ⟨f0, f1, f2, f3⟩⟩ := z4 (hb_at HX4.out b5)
    have HO5 := Lib.hid (Flds.row_below HO4.out b5)
    have HW5 := Lib.hid (Base.then_below HW4.out b5)
    have hne : w.heap.size ≠ w3.heap.size := by have := HNE.out; omega
    clear b5 HY4 HX4 HV4 HO4 HW4 HB4
    go_wp2
    have HOF := Lib.hid (tail_holds (own_set (g := w.heap.size) (o := 3) (u := .slice (some ⟨g, 2, none⟩) l.length (cap - 1)) (own_set (g := w.heap.size) (o := 2) (u := .string ⟨t.toArray⟩) (own_set (g := w.heap.size) (o := 1) (u := .string ⟨h.toArray⟩) (own_set (g := w.heap.size) (o := 0) (u := .string ⟨m.toArray⟩) HO5.out HNG.out) HNG.out) HNG.out) HNG.out))
    refine bodyPost_ret (v := .tuple #[.agg #[.string ⟨m.toArray⟩, .string ⟨h.toArray⟩, .string ⟨t.toArray⟩, .slice (some ⟨g, 2, none⟩) l.length (cap - 1)], .bool true]) (by simp [results, Tryz.results7, go_sem, x0, x1, x2, x3]) rfl ⟨_, _, rfl, ?_, set_b _ (set_b _ (set_b _ (set_b _ HW5.out (Nat.le_refl _)) (Nat.le_refl _)) (Nat.le_refl _)) (Nat.le_refl _)⟩
    have h9 := HOF.out
    first | exact h9 | (rw [if_neg HCN.out] at h9; exact h9) | (simp only [if_true] at h9; exact h9)

set_option maxHeartbeats 8000000 in
theorem prsp_txt (c : Int) (l : List Flds.Fld) (b : List UInt8) (w : World) (hr : rspOk c l b = true) (hl : Flds.total l ≤ 10000) (hb : b.length ≤ 1000) (hmx : Sh.MxL w) (ht : Fmt.Tens w) (he : Par.Errs w) :
    Calls Tryz.prog 12 #[.string ⟨(rspTxt c l b).toArray⟩] w fun e w' => ∃ a cap, e = .returned (.tuple #[.agg #[.int .i64 c, .slice a l.length cap, .string ⟨b.toArray⟩], .bool true]) ∧ Flds.Holds w' w'.heap.size (.slice a l.length cap) l ∧ Below w.heap.size w w' := by
  have hcb : 200 ≤ c ∧ c ≤ 599 := by
    have h9 := hr; unfold rspOk at h9; simp only [Bool.and_eq_true, decide_eq_true_eq] at h9; exact h9.1
  have hil : (Lib.itoa (b.length : Int)).length ≤ 20 := (Fmt.itoa_len (by omega) (by omega)).2
  have hic : (Lib.itoa c).length ≤ 20 := (Fmt.itoa_len (by omega) (by omega)).2
  have P := rsp_parts (by omega) hr
  obtain ⟨hd, c1, c2, c3⟩ := split_ok b P.first (by simp [proto]) P.flds
  rw [← rsp_text c l b] at c1
  have hfl : (Flds.fmt (l ++ [(lenName, Lib.itoa (b.length : Int))])).length ≤ 100000 := by
    have h1 := Flds.fmt_len (l ++ [(lenName, Lib.itoa (b.length : Int))]) (l ++ [(lenName, Lib.itoa (b.length : Int))]).length (Nat.le_refl _)
    have h2 := Flds.pre_le (l ++ [(lenName, Lib.itoa (b.length : Int))]) (l ++ [(lenName, Lib.itoa (b.length : Int))]).length
    have h3 : Flds.total (l ++ [(lenName, Lib.itoa (b.length : Int))]) = Flds.total l + (14 + (Lib.itoa (b.length : Int)).length) + 1 := by rw [Flds.total_snoc]; unfold Flds.wt lenName; simp
    have h4 : l.length ≤ Flds.total l := by unfold Flds.total; omega
    rw [List.take_length] at h1
    rw [List.length_append, List.length_singleton] at h1 h2
    omega
  have htl : (rspTxt c l b).length ≤ 200000 := by
    rw [rsp_text, T_cons, ← fmt_T]
    simp only [List.length_append, List.length_cons, List.length_nil]
    have : proto.length = 8 := rfl
    omega
  have hdl : hd.length ≤ 200000 := by
    have h1 := Flds.ln_len (s := hd ++ [13, 10]) (by unfold Flds.ln; rw [c2])
    have h2 : (Flds.ln (hd ++ [13, 10])) = (proto ++ 32 :: Lib.itoa c, Flds.fmt (l ++ [(lenName, Lib.itoa (b.length : Int))]), true) := c2
    rw [h2] at h1
    dsimp only at h1
    have : proto.length = 8 := rfl
    simp only [List.length_append, List.length_cons, List.length_nil] at h1
    omega
  have HB0 : Hid (Below w.heap.size w (w.alloc (.cells #[.int .i64 0, .slice none 0 0, .string ⟨#[]⟩] 31))) := Lib.hid ((Below.refl _ _).alloc (Nat.le_refl _) _)
  have HX0 := Lib.hid (hb_new w #[.int .i64 0, .slice none 0 0, .string ⟨#[]⟩] 31)
  have hs0 : (w.alloc (.cells #[.int .i64 0, .slice none 0 0, .string ⟨#[]⟩] 31)).heap.size = w.heap.size + 1 := by simp
  have HS := Lib.hid (impl_split _ hd b _ _ true true true _ (w.alloc (.cells #[.int .i64 0, .slice none 0 0, .string ⟨#[]⟩] 31)) (by omega) (by omega) (by omega) (Sh.mxl_below hmx HB0.out) c1 c2 c3)
  have HC5 : Hid (∀ W, Calls Tryz.prog 35 #[.string ⟨(proto ++ 32 :: Lib.itoa c).toArray⟩, .string ⟨#[72, 84, 84, 80, 47, 49, 46, 49, 32]⟩] W fun e w' => e = .returned (.tuple #[.string ⟨(Lib.itoa c).toArray⟩, .bool true]) ∧ w' = W) := Lib.hid (fun W => by
    have h1 := Tryz.strings_CutPrefix ⟨(proto ++ 32 :: Lib.itoa c).toArray⟩ ⟨#[72, 84, 84, 80, 47, 49, 46, 49, 32]⟩ W
    have h2 := cut_pre (proto ++ [32]) (Lib.itoa c)
    have e1 : (⟨(proto ++ 32 :: Lib.itoa c).toArray⟩ : ByteArray).data.toList = (proto ++ [32]) ++ Lib.itoa c := by simp
    have e2 : (⟨#[72, 84, 84, 80, 47, 49, 46, 49, 32]⟩ : ByteArray).data.toList = proto ++ [32] := rfl
    rw [e1, e2, h2.1, h2.2] at h1
    exact h1)
  have HPI := Lib.hid (fun W (hw : Below w.heap.size w W) => Pin.impl_pin (Lib.itoa c) W (by omega) (Fmt.tens_below ht hw) (Par.errs_below he hw))
  unfold Pin.PinEnd at HPI
  rw [pin_itoa (by omega) (by omega)] at HPI
  dsimp only at HPI
  have HV := Lib.hid (fun (W : World) a cap (hf : Flds.Holds W W.heap.size (.slice a l.length cap) l) => impl_valid_rsp c (.slice a l.length cap) W.heap.size l b W hf (Nat.le_refl _) (by omega) (by omega))
  have HLF := Lib.hid (fun (W : World) v (hw : Below w.heap.size w W) => impl_lenf c v b W (by omega) (Fmt.tens_below ht hw))
  rw [hr] at HV
  unfold BoolEnd at HV
  generalize proto ++ 32 :: Lib.itoa c = y0 at HS HC5
  generalize Lib.itoa c = ic at HC5 HPI
  generalize Lib.itoa (b.length : Int) = ib at HS HLF
  generalize rspTxt c l b = tx at HS
  have hll : l.length ≤ 10000 := by unfold Flds.total at hl; omega
  have HSZ := Lib.hid hs0
  clear P c1 c2 c3 hfl htl hdl hr hl hb hmx ht he hs0 hil hic hcb
  go_enter Tryz.func12, Tryz.ntmps12
  go_wp2_with (fail)
  go_at_call 27
  refine HS.out.mono ?_
  rintro e w1 ⟨v, rfl, ov, b1⟩
  obtain ⟨g, cap, rfl⟩ : ∃ g cap, v = .slice (some ⟨g, 0, none⟩) (l.length + 1) cap := by
    have hz : (l ++ [(lenName, ib)]).length = l.length + 1 := by simp
    rcases ov.2 with ⟨_, h0⟩ | ⟨g, cap, cur, e, _⟩
    · rw [hz] at h0; omega
    · rw [hz] at e; exact ⟨g, cap, e⟩
  have HX1 := Lib.hid (hb_at HX0.out b1)
  have B1 := Lib.hid (Base.then_below HB0.out b1)
  have HO1 := Lib.hid ov
  clear b1 ov HS HX0 HB0
  go_wp2_with (fail)
  go_at_call 35
  refine (HC5.out _).mono ?_
  rintro e w2 ⟨rfl, hw⟩
  subst hw
  have HP2 := Lib.hid (HPI.out _ B1.out)
  clear HC5 HPI
  go_wp2_with (fail)
  go_at_call 36
  refine HP2.out.mono ?_
  rintro e w3 ⟨rfl, b3⟩
  have HX3 := Lib.hid (hb_at HX1.out b3)
  have B3 := Lib.hid (Base.then_below B1.out b3)
  have HO3 := Lib.hid (Flds.row_below HO1.out b3)
  clear b3 HX1 B1 HO1 HP2
  have hcap : l.length ≤ cap := by
    have hz : (l ++ [(lenName, ib)]).length = l.length + 1 := by simp
    rcases Flds.own_holds HO3.out with ⟨h0, _⟩ | ⟨_, _, _, _, e, _, hc, _⟩
    · simp at h0
    · rw [hz] at e hc; cases e; omega
  have hw4 : Below w3.heap.size w3 (w3.alloc (.cells #[.int .i64 c, .slice (some ⟨g, 0, none⟩) l.length cap, .string ⟨b.toArray⟩] 31)) := (Below.refl _ _).alloc (Nat.le_refl _) _
  have HX4 := Lib.hid (hb_at HX3.out hw4)
  have HY4 := Lib.hid (hb_new w3 #[.int .i64 c, .slice (some ⟨g, 0, none⟩) l.length cap, .string ⟨b.toArray⟩] 31)
  have HO4 := Lib.hid (Flds.row_below HO3.out hw4)
  have B4 := Lib.hid (Base.then_below B3.out hw4)
  have HNE : Hid (w.heap.size < w3.heap.size) := Lib.hid (by have h1 := (HO3.out.lt g rfl).1; have h2 := (HO3.out.lt g rfl).2; rw [HSZ.out] at h1; omega)
  have HNG : Hid (∀ k, (Value.slice (some ⟨g, 0, none⟩) (l.length + 1) cap).ownBlock = some k → k ≠ w.heap.size) := Lib.hid (fun k e => by have h1 := (HO3.out.lt k e).1; rw [HSZ.out] at h1; omega)
  obtain ⟨q0, q1⟩ := last_at HO4.out
  dsimp only at q0 q1
  unfold Flds.sv at q0 q1
  obtain ⟨⟨p0, p1, p2⟩, _⟩ := z3 HY4.out
  have HSD : Hid (GS (w3.alloc (.cells #[.int .i64 c, .slice (some ⟨g, 0, none⟩) l.length cap, .string ⟨b.toArray⟩] 31)) (w3.alloc (.cells #[.int .i64 c, .slice (some ⟨g, 0, none⟩) l.length cap, .string ⟨b.toArray⟩] 31)).drew) := Lib.hid (Rec.below_drew (Below.refl _ _))
  have SK : Hid (∀ v0 v1 : World, GS (w3.alloc (.cells #[.int .i64 c, .slice (some ⟨g, 0, none⟩) l.length cap, .string ⟨b.toArray⟩] 31)) v0 → Below v0.heap.size v0 v1 → GS (w3.alloc (.cells #[.int .i64 c, .slice (some ⟨g, 0, none⟩) l.length cap, .string ⟨b.toArray⟩] 31)) v1) := Lib.hid (fun _ _ h hb => gs_call h hb)
  have f0 : ∀ n : RegS.In (GS (w3.alloc (.cells #[.int .i64 c, .slice (some ⟨g, 0, none⟩) l.length cap, .string ⟨b.toArray⟩] 31))), n.w.cell? ⟨w3.heap.size, 0, none⟩ = some (.int .i64 c) := fun n => gs_cell n.h p0
  have f1 : ∀ n : RegS.In (GS (w3.alloc (.cells #[.int .i64 c, .slice (some ⟨g, 0, none⟩) l.length cap, .string ⟨b.toArray⟩] 31))), n.w.cell? ⟨w3.heap.size, 1, none⟩ = some (.slice (some ⟨g, 0, none⟩) l.length cap) := fun n => gs_cell n.h p1
  have f2 : ∀ n : RegS.In (GS (w3.alloc (.cells #[.int .i64 c, .slice (some ⟨g, 0, none⟩) l.length cap, .string ⟨b.toArray⟩] 31))), n.w.cell? ⟨w3.heap.size, 2, none⟩ = some (.string ⟨b.toArray⟩) := fun n => gs_cell n.h p2
  have f3 : ∀ n : RegS.In (GS (w3.alloc (.cells #[.int .i64 c, .slice (some ⟨g, 0, none⟩) l.length cap, .string ⟨b.toArray⟩] 31))), n.w.cell? ⟨g, l.length * 2, none⟩ = some (.string ⟨lenName.toArray⟩) := fun n => gs_cell n.h q0
  have f4 : ∀ n : RegS.In (GS (w3.alloc (.cells #[.int .i64 c, .slice (some ⟨g, 0, none⟩) l.length cap, .string ⟨b.toArray⟩] 31))), n.w.cell? ⟨g, l.length * 2 + 1, none⟩ = some (.string ⟨ib.toArray⟩) := fun n => gs_cell n.h q1
  have HCV := Lib.hid (fun n : RegS.In (GS (w3.alloc (.cells #[.int .i64 c, .slice (some ⟨g, 0, none⟩) l.length cap, .string ⟨b.toArray⟩] 31))) => HV.out n.w _ _ (init_holds (Flds.row_below HO4.out n.h)))
  have HCL := Lib.hid (fun n : RegS.In (GS (w3.alloc (.cells #[.int .i64 c, .slice (some ⟨g, 0, none⟩) l.length cap, .string ⟨b.toArray⟩] 31))) => HLF.out n.w (.slice (some ⟨g, 0, none⟩) l.length cap) (Base.then_below B4.out n.h))
  generalize lenName = lnm at f3 HCL HO4 HO3
  clear hw4 q0 q1 p0 p1 p2 HV HLF HX3 B3 HO3
  go_wp2
  refine RegS.region (GS (w3.alloc (.cells #[.int .i64 c, .slice (some ⟨g, 0, none⟩) l.length cap, .string ⟨b.toArray⟩] 31))) (by kernel_rfl) (by kernel_rfl) HSD.out ?_
  haveI : Nonempty (RegS.In (GS (w3.alloc (.cells #[.int .i64 c, .slice (some ⟨g, 0, none⟩) l.length cap, .string ⟨b.toArray⟩] 31)))) := ⟨⟨_, HSD.out⟩⟩
  repeat (first | go_big_quiet_step ((first | (go_at_call 37; with_reducible exact RegS.call (HCL.out _) (fun e w' he => ⟨he.1, SK.out _ _ (RegS.In.h _) he.2⟩)) | (go_at_call 38; with_reducible exact RegS.call (HCV.out _) (fun e w' he => ⟨he.1, SK.out _ _ (RegS.In.h _) he.2⟩)))) | quiet_step ((first | (go_at_call 37; with_reducible exact RegS.call (HCL.out _) (fun e w' he => ⟨he.1, SK.out _ _ (RegS.In.h _) he.2⟩)) | (go_at_call 38; with_reducible exact RegS.call (HCV.out _) (fun e w' he => ⟨he.1, SK.out _ _ (RegS.In.h _) he.2⟩)))))
  refine wpQuiet_nil ?_
  intro wz hw'
  obtain ⟨⟨wx, hSq⟩, hw''⟩ := hw'
  have hS : GS (w3.alloc (.cells #[.int .i64 c, .slice (some ⟨g, 0, none⟩) l.length cap, .string ⟨b.toArray⟩] 31)) wz := by rw [hw'']; exact hSq
  clear hSq hw'' wx
  obtain ⟨⟨y0, y1, y2⟩, _⟩ := z3 (hb_at HY4.out hS)
  obtain ⟨⟨x0, x1, x2⟩, ⟨e0, e1, e2⟩⟩ := z3 (hb_at HX4.out hS)
  have HO5 := Lib.hid (Flds.row_below HO4.out hS)
  have HW5 := Lib.hid (Base.then_below B4.out hS)
  have hne : w.heap.size ≠ w3.heap.size := by have := HNE.out; omega
  clear hS HY4 HX4 HO4 B4 HSD SK HCV HCL f0 f1 f2 f3 f4
  go_wp2
  have HOF := Lib.hid (init_holds (own_set (g := w.heap.size) (o := 2) (u := .string ⟨b.toArray⟩) (own_set (g := w.heap.size) (o := 1) (u := .slice (some ⟨g, 0, none⟩) l.length cap) (own_set (g := w.heap.size) (o := 0) (u := .int .i64 c) HO5.out HNG.out) HNG.out) HNG.out))
  refine bodyPost_ret (v := .tuple #[.agg #[.int .i64 c, .slice (some ⟨g, 0, none⟩) l.length cap, .string ⟨b.toArray⟩], .bool true]) (by simp [results, Tryz.results12, go_sem, x0, x1, x2]) rfl ⟨_, _, rfl, HOF.out, set_b _ (set_b _ (set_b _ HW5.out (Nat.le_refl _)) (Nat.le_refl _)) (Nat.le_refl _)⟩
end Go.Proofs.YtfkejnbkglaokaaGreatDoor.Msg

/-
  CONTRACTS of the laws' helpers for slices of fields: an argument of that type, opened; its size (szFieldS). Nothing that was there before is changed.
-/
namespace Go.Proofs.YtfkejnbkglaokaaGreatDoor.Flds
open Go Go.RowKit
set_option linter.unusedVariables false
set_option maxRecDepth 1000000

theorem trod_text {H : Type} {enc : TypeId × Value → H} {W : World} {n : Nat} {sp : Nat → Bool} {v : Value} {x : DataW H × List MemPlace} (h : DataW.trod enc Tryz.prog W 0 sp true n 9 [v] = some x) : ∃ s : ByteArray, v = .string s ∧ s.size ≤ maxLen := by
  obtain ⟨s, h1, h2, h3⟩ := DataW.trod_string Tryz.underlying9 h
  exact ⟨s, by simpa using h1, h3⟩

/-- What szFieldS answers: not below 0 just where the size is at most what is left. -/
def Sized (l : List Fld) (left : Int) (w : World) (e : Ending) (w' : World) : Prop := ∃ z : Int, e = .returned (.int .i64 z) ∧ (z < 0 ∨ (0 ≤ z ∧ z + total l = left)) ∧ Below w.heap.size w w'

end Go.Proofs.YtfkejnbkglaokaaGreatDoor.Flds

/-
  A SLICE OF FIELDS that stands in one cell of a struct (as in a request or a response), opened.
-/
namespace Go.Proofs.YtfkejnbkglaokaaGreatDoor.Flds
open Go Go.RowKit
set_option linter.unusedVariables false
set_option maxRecDepth 1000000

end Go.Proofs.YtfkejnbkglaokaaGreatDoor.Flds

/-
  CONTRACTS of the laws' helpers for slices of fields: a copy (toField, toFieldS). Nothing that was there before is changed.
-/
namespace Go.Proofs.YtfkejnbkglaokaaGreatDoor.Flds
open Go Go.RowKit
set_option linter.unusedVariables false
set_option maxRecDepth 1000000

def Copied (l : List Fld) (w : World) (e : Ending) (w' : World) : Prop := ∃ v, e = .returned v ∧ Own w' w.heap.size v l ∧ Below w.heap.size w w'
/-- .. and the slice is not nil. -/
def Copied' (l : List Fld) (w : World) (e : Ending) (w' : World) : Prop := ∃ v, e = .returned v ∧ Own w' w.heap.size v l ∧ Below w.heap.size w w' ∧ ∃ g cap, v = .slice (some ⟨g, 0, none⟩) l.length cap

end Go.Proofs.YtfkejnbkglaokaaGreatDoor.Flds

/-
  CONTRACT of the laws' comparison of two slices of fields (eqFieldS): where both hold the same fields it returns true; nothing that was there before is changed.
-/
namespace Go.Proofs.YtfkejnbkglaokaaGreatDoor.Flds
open Go Go.RowKit
set_option linter.unusedVariables false
set_option maxRecDepth 1000000

def Yes (w : World) (e : Ending) (w' : World) : Prop := e = .returned (.bool true) ∧ Below w.heap.size w w'
theorem below_drew {B : Nat} {a w : World} (h : Below B a w) : Below B a w.drew := ⟨h.os, h.tape, h.output, h.size, h.block⟩

theorem eq_one (s t : ByteArray) (w : World) : Calls Tryz.prog 59 #[.agg #[.string s, .string t], .agg #[.string s, .string t]] w (Yes w) := by
  go_enter Tryz.func59, Tryz.ntmps59
  go_wp2
  go_ret
  exact ⟨rfl, ((Below.refl _ _).alloc (Nat.le_refl _) _).alloc (by simp) _⟩

theorem eq_nil (a a' : Option Addr) (cap cap' : Nat) (w : World) :
    Calls Tryz.prog 31 #[.slice a 0 cap, .slice a' 0 cap'] w (Yes w) := by
  go_enter Tryz.func31, Tryz.ntmps31
  go_wp2
  go_loop [5] (fun i => i = .int .i64 0) (fun i => 0)
  case atStart => rfl
  case round =>
    obtain rfl := hrel
    go_wp2
    go_ret
    exact ⟨rfl, Below.refl _ _⟩

set_option maxHeartbeats 1000000 in
theorem eq_some (b off cap b' off' cap' : Nat) (l : List Fld) (w : World) (hc : At w b off l) (hc' : At w b' off' l) (h0 : 0 < l.length) (hl : l.length ≤ 4194304) :
    Calls Tryz.prog 31 #[.slice (some ⟨b, off, none⟩) l.length cap, .slice (some ⟨b', off', none⟩) l.length cap'] w (Yes w) := by
  have hbl := at_lt hc h0
  have hbl' := at_lt hc' h0
  have HC := Lib.hid hc
  have HC' := Lib.hid hc'
  clear hc hc'
  go_enter Tryz.func31, Tryz.ntmps31
  go_wp2
  go_loopw [5] (fun i wr => ∃ k : Nat, k ≤ l.length ∧ i = .int .i64 k ∧ Below w.heap.size w wr) (fun i _ => l.length - (intOf i).toNat)
  case atStart => exact ⟨0, Nat.zero_le _, rfl, Below.refl _ _⟩
  case round =>
    obtain ⟨k, hk, rfl, hb⟩ := hrel
    by_cases hlt : k < l.length
    · have cc := at_below HC.out (below_drew hb) hbl k hlt
      have cc' := at_below HC'.out (below_drew hb) hbl' k hlt
      unfold sv at cc cc'
      obtain ⟨s, hs⟩ : ∃ z : ByteArray, z = ⟨(l.getD k nofld).1.toArray⟩ := ⟨_, rfl⟩
      obtain ⟨t, ht⟩ : ∃ z : ByteArray, z = ⟨(l.getD k nofld).2.toArray⟩ := ⟨_, rfl⟩
      rw [← hs, ← ht] at cc cc'
      clear hs ht
      obtain ⟨c1, c2⟩ := cc
      obtain ⟨c1', c2'⟩ := cc'
      have HB := Lib.hid (below_drew hb)
      clear hb
      go_wp2
      go_region_with (go_at_call 59; refine (eq_one s t wr.drew).mono ?_; rintro e wt ⟨rfl, hb1⟩; have HB1 := Lib.hid (Base.then_below HB.out hb1); clear hb1)
      all_goals go_wp2
      all_goals go_roundw
      all_goals first
        | exact ⟨k + 1, by omega, by go_num, HB1.out⟩
        | (simp [intOf]; omega)
    · go_wp2
      go_ret
      exact ⟨rfl, hb⟩

theorem eq_wide (v v' : Value) (B B' : Nat) (l : List Fld) (w : World) (h : Holds w B v l) (h' : Holds w B' v' l) (hl : l.length ≤ 4194304) :
    Calls Tryz.prog 31 #[v, v'] w (Yes w) := by
  rcases h with ⟨rfl, a, cap, rfl⟩ | ⟨h0, b, off, cap, rfl, _, _, hc⟩
  · rcases h' with ⟨_, a', cap', rfl⟩ | ⟨h0, _⟩
    · exact eq_nil a a' cap cap' w
    · exact absurd h0 (by simp)
  · rcases h' with ⟨rfl, _⟩ | ⟨_, b', off', cap', rfl, _, _, hc'⟩
    · exact absurd h0 (by simp)
    · exact eq_some b off cap b' off' cap' l w hc hc' h0 hl
theorem eq_same (v v' : Value) (B B' : Nat) (l : List Fld) (w : World) (h : Holds w B v l) (h' : Holds w B' v' l) (hl : l.length ≤ 1048576) :
    Calls Tryz.prog 31 #[v, v'] w (Yes w) := eq_wide v v' B B' l w h h' (Nat.le_trans hl (by decide))
end Go.Proofs.YtfkejnbkglaokaaGreatDoor.Flds
