/-
  CONTRACTS of FormatResponse, the model's and the program's: the response as it is written, nothing where it is not valid; nothing that was there before is changed.
-/
import Derived.Test.YtikpolmnadmkoaaDoorRspIs
import Derived.Test.YtikpolmnadmkoaaDoorRqF
import Derived.Test.YtikpolmnadmkoaaDoorFmtImpl
import Derived.Test.YtikpolmnadmkoaaDoorFmtSpec
namespace Go.Proofs.YtikpolmnadmkoaaDoor.Msg
open Go Go.RowKit
set_option linter.unusedVariables false

def rspTxt (c : Int) (l : List Flds.Fld) (b : List UInt8) : List UInt8 := [72, 84, 84, 80, 47, 49, 46, 49, 32] ++ Lib.itoa c ++ [13, 10] ++ Flds.fmt l ++ [99, 111, 110, 116, 101, 110, 116, 45, 108, 101, 110, 103, 116, 104, 58, 32] ++ Lib.itoa (b.length : Int) ++ [13, 10, 13, 10] ++ b
def rspTxt2 (c : Int) (l : List Flds.Fld) (b : List UInt8) : List UInt8 := [72, 84, 84, 80, 47, 49, 46, 49, 32] ++ Lib.itoa c ++ [13, 10] ++ Flds.fmt l ++ Flds.fmt [(lenName, Lib.itoa (b.length : Int))] ++ [13, 10] ++ b
theorem rspTxt_eq (c : Int) (l : List Flds.Fld) (b : List UInt8) : rspTxt c l b = rspTxt2 c l b := by
  unfold rspTxt rspTxt2 Flds.fmt
  simp [Flds.line, lenName, List.append_assoc]
def fmtRsp (c : Int) (l : List Flds.Fld) (b : List UInt8) : List UInt8 := if rspOk c l b then rspTxt c l b else []
/-- The class of worlds: a response's own block, and all that is old. -/
def BxR (w : World) (c : Int) (v : Value) (b : List UInt8) (u : World) : Prop := (u.cell? ⟨w.heap.size, 0, none⟩ = some (.int .i64 c) ∧ u.cell? ⟨w.heap.size, 1, none⟩ = some v ∧ u.cell? ⟨w.heap.size, 2, none⟩ = some (.string ⟨b.toArray⟩)) ∧ Below w.heap.size w u
theorem bxr_call {w u u' : World} {c : Int} {v : Value} {b : List UInt8} (hs : BxR w c v b u) (hb : Below u.heap.size u u') : BxR w c v b u' := by
  obtain ⟨⟨h0, h1, h2⟩, h4⟩ := hs
  exact ⟨⟨(hb.cell (p := ⟨w.heap.size, 0, none⟩) (Rec.lt_of_cell h0)).trans h0, (hb.cell (p := ⟨w.heap.size, 1, none⟩) (Rec.lt_of_cell h1)).trans h1, (hb.cell (p := ⟨w.heap.size, 2, none⟩) (Rec.lt_of_cell h2)).trans h2⟩, Base.then_below h4 hb⟩
theorem bxr_drew {w u : World} {c : Int} {v : Value} {b : List UInt8} (hs : BxR w c v b u) : BxR w c v b u.drew := ⟨hs.1, Rec.below_drew hs.2⟩
theorem bxr_start (w : World) (c : Int) (v : Value) (b : List UInt8) (T : TypeId) : BxR w c v b (w.alloc (.cells #[.int .i64 c, v, .string ⟨b.toArray⟩] T)) :=
  ⟨⟨by rw [World.cell?_alloc_new]; rfl, by rw [World.cell?_alloc_new]; rfl, by rw [World.cell?_alloc_new]; rfl⟩, (Below.refl _ _).alloc (Nat.le_refl _) _⟩
theorem itl {n : Int} (h : -9223372036854775808 ≤ n ∧ n ≤ 9223372036854775807) : (Lib.itoa n).length ≤ 20 := (Fmt.itoa_len h.1 h.2).2

set_option maxRecDepth 100000 in
set_option maxHeartbeats 4000000 in
theorem spec_l11 (c : Int) (v : Value) (B : Nat) (l : List Flds.Fld) (b : List UInt8) (w : World) (h : Flds.Holds w B v l) (hB : B ≤ w.heap.size) (hl : Flds.total l ≤ 1048576) (hbl : b.length ≤ 1048576) (hc : -9223372036854775808 ≤ c ∧ c ≤ 9223372036854775807) :
    Calls Tryd.prog 32 #[.agg #[.int .i64 c, v, .string ⟨b.toArray⟩]] w (TxtEnd (rspTxt c l b) w) := by
  have hsb : (⟨b.toArray⟩ : ByteArray).size = b.length := by simp [ByteArray.size]
  have HS0 := Lib.hid (bxr_start w c v b 38)
  have HY := Lib.hid h
  have hn : -9223372036854775808 ≤ (b.length : Int) ∧ (b.length : Int) ≤ 9223372036854775807 := ⟨by omega, by omega⟩
  have HP := Lib.hid (fun W => Fmt.spec_fmt c hc.1 hc.2 W)
  have HQ := Lib.hid (fun W => Fmt.spec_fmt (b.length : Int) hn.1 hn.2 W)
  have HF := Lib.hid (fun W (hW : Flds.Holds W B v l) => Flds.spec_fmt v B l W hW hl)
  have HE : Hid (rspTxt c l b = [72, 84, 84, 80, 47, 49, 46, 49, 32] ++ Lib.itoa c ++ [13, 10] ++ Flds.fmt l ++ [99, 111, 110, 116, 101, 110, 116, 45, 108, 101, 110, 103, 116, 104, 58, 32] ++ Lib.itoa (b.length : Int) ++ [13, 10, 13, 10] ++ b) := Lib.hid rfl
  have l1 := itl hc
  have l2 := fmt_le hl
  have l3 := itl hn
  unfold Flds.FmtEnd at HF
  unfold TxtEnd
  generalize Lib.itoa c = s1 at HE HP l1
  generalize Flds.fmt l = f at HE HF l2
  generalize Lib.itoa (b.length : Int) = s3 at HE HQ l3
  have a1 := Tx.addtwo ([72, 84, 84, 80, 47, 49, 46, 49, 32]) (s1) (by simp only [List.length_append, List.length_cons, List.length_nil]; omega)
  have a2 := Tx.addtwo ([72, 84, 84, 80, 47, 49, 46, 49, 32] ++ s1) ([13, 10]) (by simp only [List.length_append, List.length_cons, List.length_nil]; omega)
  have a3 := Tx.addtwo ([72, 84, 84, 80, 47, 49, 46, 49, 32] ++ s1 ++ [13, 10]) (f) (by simp only [List.length_append, List.length_cons, List.length_nil]; omega)
  have a4 := Tx.addtwo ([72, 84, 84, 80, 47, 49, 46, 49, 32] ++ s1 ++ [13, 10] ++ f) ([99, 111, 110, 116, 101, 110, 116, 45, 108, 101, 110, 103, 116, 104, 58, 32]) (by simp only [List.length_append, List.length_cons, List.length_nil]; omega)
  have a5 := Tx.addtwo ([72, 84, 84, 80, 47, 49, 46, 49, 32] ++ s1 ++ [13, 10] ++ f ++ [99, 111, 110, 116, 101, 110, 116, 45, 108, 101, 110, 103, 116, 104, 58, 32]) (s3) (by simp only [List.length_append, List.length_cons, List.length_nil]; omega)
  have a6 := Tx.addtwo ([72, 84, 84, 80, 47, 49, 46, 49, 32] ++ s1 ++ [13, 10] ++ f ++ [99, 111, 110, 116, 101, 110, 116, 45, 108, 101, 110, 103, 116, 104, 58, 32] ++ s3) ([13, 10, 13, 10]) (by simp only [List.length_append, List.length_cons, List.length_nil]; omega)
  have a7 := Tx.addtwo ([72, 84, 84, 80, 47, 49, 46, 49, 32] ++ s1 ++ [13, 10] ++ f ++ [99, 111, 110, 116, 101, 110, 116, 45, 108, 101, 110, 103, 116, 104, 58, 32] ++ s3 ++ [13, 10, 13, 10]) (b) (by simp only [List.length_append, List.length_cons, List.length_nil]; omega)
  generalize [72, 84, 84, 80, 47, 49, 46, 49, 32] ++ s1 = z1 at HE a1 a2 a3 a4 a5 a6 a7
  generalize z1 ++ [13, 10] = z2 at HE a2 a3 a4 a5 a6 a7
  generalize z2 ++ f = z3 at HE a3 a4 a5 a6 a7
  generalize z3 ++ [99, 111, 110, 116, 101, 110, 116, 45, 108, 101, 110, 103, 116, 104, 58, 32] = z4 at HE a4 a5 a6 a7
  generalize z4 ++ s3 = z5 at HE a5 a6 a7
  generalize z5 ++ [13, 10, 13, 10] = z6 at HE a6 a7
  generalize z6 ++ b = z7 at HE a7
  clear h hl hc hn l1 l2 l3
  have HSD := Lib.hid (bxr_drew HS0.out)
  have SK : Hid (∀ w0 w1 : World, BxR w c v b w0 → Below w0.heap.size w0 w1 → BxR w c v b w1) := Lib.hid (fun _ _ h hb => bxr_call h hb)
  have HFW : Hid (∀ u : RegS.In (BxR w c v b), Calls Tryd.prog 30 #[v] u.w fun e w' => e = .returned (.string ⟨f.toArray⟩) ∧ Below u.w.heap.size u.w w') := Lib.hid (fun u => HF.out u.w (Flds.holds_below HY.out (u.h.2.mono hB)))
  have f0 : ∀ u : RegS.In (BxR w c v b), u.w.cell? ⟨w.heap.size, 0, none⟩ = some (.int .i64 c) := fun u => u.h.1.1
  have f1 : ∀ u : RegS.In (BxR w c v b), u.w.cell? ⟨w.heap.size, 1, none⟩ = some v := fun u => u.h.1.2.1
  have f2 : ∀ u : RegS.In (BxR w c v b), u.w.cell? ⟨w.heap.size, 2, none⟩ = some (.string ⟨b.toArray⟩) := fun u => u.h.1.2.2
  go_enter Tryd.func32, Tryd.ntmps32
  go_wp2
  refine RegS.region (BxR w c v b) (by kernel_rfl) (by kernel_rfl) HSD.out ?_
  haveI : Nonempty (RegS.In (BxR w c v b)) := ⟨⟨_, HSD.out⟩⟩
  repeat (first | go_big_quiet_step ((first | (go_at_call 30; with_reducible exact RegS.call (HFW.out _) (fun e w' he => ⟨he.1, SK.out _ _ (RegS.In.h _) he.2⟩)) | (go_at_call 46; with_reducible exact RegS.call (HP.out _) (fun e w' he => ⟨he.1, SK.out _ _ (RegS.In.h _) he.2⟩)) | (go_at_call 46; with_reducible exact RegS.call (HQ.out _) (fun e w' he => ⟨he.1, SK.out _ _ (RegS.In.h _) he.2⟩)))) | quiet_step (fail))
  refine wpQuiet_nil ?_
  intro wz hw'
  obtain ⟨⟨wq, hS⟩, hw''⟩ := hw'
  subst hw''
  have HBB := Lib.hid hS.2
  clear hS
  go_wp2
  go_ret
  exact ⟨ret_txt HE.out.symm, HBB.out⟩

/-- A field in a block of its own. -/
def FBox (g : Nat) (x y : Value) (w : World) : Prop := w.heap[g]? = some (.cells #[x, y] 59 (0, 0))
theorem box_new (w : World) (x y : Value) : FBox w.heap.size x y (w.alloc (.cells #[x, y] 59)) := heap_alloc_new w _
theorem box_keep {g : Nat} {x y : Value} {w w' : World} (h : FBox g x y w) (hb : Below w.heap.size w w') : FBox g x y w' := by
  have hlt : g < w.heap.size := by
    rcases Nat.lt_or_ge g w.heap.size with h' | h'
    · exact h'
    · unfold FBox at h; rw [Array.getElem?_eq_none h'] at h; cases h
  exact (hb.block g hlt).trans h
theorem box_facts {g : Nat} {x y : Value} {w : World} (h : FBox g x y w) : (w.cell? ⟨g, 0, none⟩ = some x ∧ w.cell? ⟨g, 1, none⟩ = some y) ∧ w.frozen? ⟨g, 0, none⟩ = false ∧ w.frozen? ⟨g, 1, none⟩ = false :=
  ⟨⟨cell_of_row w g 0 _ _ (0, 0) h, cell_of_row w g 1 _ _ (0, 0) h⟩, frozen_of_row w g 0 _ _ h, frozen_of_row w g 1 _ _ h⟩

set_option maxHeartbeats 2000000 in
theorem impl_lenf (c : Int) (v : Value) (b : List UInt8) (w : World) (hbl : b.length ≤ 1048576) (ht : Fmt.Tens w) :
    Calls Tryd.prog 48 #[.agg #[.int .i64 c, v, .string ⟨b.toArray⟩]] w fun e w' => e = .returned (.agg #[.string ⟨lenName.toArray⟩, .string ⟨(Lib.itoa (b.length : Int)).toArray⟩]) ∧ Below w.heap.size w w' := by
  have hsb : (⟨b.toArray⟩ : ByteArray).size = b.length := by simp [ByteArray.size]
  have hb2 : Below w.heap.size w ((w.alloc (.cells #[.int .i64 c, v, .string ⟨b.toArray⟩] 38)).alloc (.cells #[.string ⟨#[]⟩, .string ⟨#[]⟩] 59)) := ((Below.refl _ _).alloc (Nat.le_refl _) _).alloc (by simp) _
  have HB2 := Lib.hid hb2
  have HQ := Lib.hid (Fmt.impl_fmt (b.length : Int) (by omega) (by omega) _ (Fmt.tens_below ht hb2))
  have HK := Lib.hid (box_new ((w.alloc (.cells #[.int .i64 c, v, .string ⟨b.toArray⟩] 38))) (.string ⟨#[]⟩) (.string ⟨#[]⟩))
  generalize Lib.itoa (b.length : Int) = s at HQ
  clear ht hb2
  go_enter Tryd.func48, Tryd.ntmps48
  go_wp2_with (fail)
  go_at_call 47
  refine HQ.out.mono ?_
  rintro e w1 ⟨rfl, hb1⟩
  have HBX := Lib.hid (box_keep HK.out hb1)
  have HB := Lib.hid (HB2.out.trans (hb1.mono HB2.out.size))
  obtain ⟨⟨q0, q1⟩, z0, z1⟩ := box_facts HBX.out
  simp only [World.size_alloc] at q0 q1 z0 z1
  clear hb1 HK
  go_wp2
  refine bodyPost_ret (v := .agg #[.string ⟨lenName.toArray⟩, .string ⟨s.toArray⟩]) (by simp [results, Tryd.results48, go_sem, q0, q1, lenName]) rfl ⟨rfl, ?_⟩
  exact (HB.out.setCell (by simp) _).setCell (by simp) _

set_option maxRecDepth 100000 in
set_option maxHeartbeats 4000000 in
theorem impl_text_rsp (c : Int) (v : Value) (B : Nat) (l : List Flds.Fld) (b : List UInt8) (w : World) (h : Flds.Holds w B v l) (hB : B ≤ w.heap.size) (hl : Flds.total l ≤ 1048576) (hbl : b.length ≤ 1048576) (hc : -9223372036854775808 ≤ c ∧ c ≤ 9223372036854775807) (ht : Fmt.Tens w) :
    Calls Tryd.prog 33 #[.agg #[.int .i64 c, v, .string ⟨b.toArray⟩]] w (TxtEnd (rspTxt2 c l b) w) := by
  have HS0 := bxr_start w c v b 38
  have HTN := Lib.hid (fun W (hb : Below w.heap.size w W) => Fmt.tens_below ht hb)
  have HP := Lib.hid (fun W (hb : Below w.heap.size w W) => Fmt.impl_fmt c hc.1 hc.2 W (HTN.out W hb))
  have HL := Lib.hid (fun W (hb : Below w.heap.size w W) => impl_lenf c v b W hbl (HTN.out W hb))
  have HF := Lib.hid (fun W (hb : Below w.heap.size w W) => Flds.impl_fmt_any v B l W (Flds.holds_below h (hb.mono hB)) (Nat.le_trans hB hb.size) hl)
  have hn : -9223372036854775808 ≤ (b.length : Int) ∧ (b.length : Int) ≤ 9223372036854775807 := ⟨by omega, by omega⟩
  have l1 := itl hc
  have l2 := fmt_le hl
  have l3 := itl hn
  have HE : Hid (rspTxt2 c l b = [72, 84, 84, 80, 47, 49, 46, 49, 32] ++ Lib.itoa c ++ [13, 10] ++ Flds.fmt l ++ Flds.fmt [(lenName, Lib.itoa (b.length : Int))] ++ [13, 10] ++ b) := Lib.hid rfl
  generalize Lib.itoa (b.length : Int) = s3 at HE HL l3
  have hg : (Flds.fmt [(lenName, s3)]).length ≤ 100 := by simp [Flds.fmt, Flds.line, lenName]; omega
  have HG : Hid (∀ U : World, Calls Tryd.prog 45 #[.slice (some ⟨U.heap.size, 0, none⟩) 1 1] (U.alloc (.cells #[.string ⟨lenName.toArray⟩, .string ⟨s3.toArray⟩] 59)) (Flds.FmtEnd [(lenName, s3)] (U.alloc (.cells #[.string ⟨lenName.toArray⟩, .string ⟨s3.toArray⟩] 59)))) := Lib.hid (fun U => Flds.impl_fmt_any _ _ [(lenName, s3)] _ (Flds.own_holds (lit_field U lenName s3 rfl)) (Nat.le_refl _) (by unfold Flds.total; have e : Flds.wt (lenName, s3) = 14 + s3.length := rfl; simp only [List.map_cons, List.map_nil, List.sum_cons, List.sum_nil, List.length_cons, List.length_nil, e]; omega))
  unfold Flds.FmtEnd at HF HG
  unfold TxtEnd
  generalize Lib.itoa c = s1 at HE HP l1
  generalize Flds.fmt l = f at HE HF l2
  generalize Flds.fmt [(lenName, s3)] = g at HE HG hg
  have a1 := Tx.addtwo ([72, 84, 84, 80, 47, 49, 46, 49, 32]) (s1) (by simp only [List.length_append, List.length_cons, List.length_nil]; omega)
  have a2 := Tx.addtwo ([72, 84, 84, 80, 47, 49, 46, 49, 32] ++ s1) ([13, 10]) (by simp only [List.length_append, List.length_cons, List.length_nil]; omega)
  have a3 := Tx.addtwo ([72, 84, 84, 80, 47, 49, 46, 49, 32] ++ s1 ++ [13, 10]) (f) (by simp only [List.length_append, List.length_cons, List.length_nil]; omega)
  have a4 := Tx.addtwo ([72, 84, 84, 80, 47, 49, 46, 49, 32] ++ s1 ++ [13, 10] ++ f) (g) (by simp only [List.length_append, List.length_cons, List.length_nil]; omega)
  have a5 := Tx.addtwo ([72, 84, 84, 80, 47, 49, 46, 49, 32] ++ s1 ++ [13, 10] ++ f ++ g) ([13, 10]) (by simp only [List.length_append, List.length_cons, List.length_nil]; omega)
  have a6 := Tx.addtwo ([72, 84, 84, 80, 47, 49, 46, 49, 32] ++ s1 ++ [13, 10] ++ f ++ g ++ [13, 10]) (b) (by simp only [List.length_append, List.length_cons, List.length_nil]; omega)
  generalize [72, 84, 84, 80, 47, 49, 46, 49, 32] ++ s1 = z1 at HE a1 a2 a3 a4 a5 a6
  generalize z1 ++ [13, 10] = z2 at HE a2 a3 a4 a5 a6
  generalize z2 ++ f = z3 at HE a3 a4 a5 a6
  generalize z3 ++ g = z4 at HE a4 a5 a6
  generalize z4 ++ [13, 10] = z5 at HE a5 a6
  generalize z5 ++ b = z6 at HE a6
  have HSD : Hid ((w.alloc (.cells #[.int .i64 c, v, .string ⟨b.toArray⟩] 38)).drew.cell? ⟨w.heap.size, 0, none⟩ = some (.int .i64 c) ∧ (w.alloc (.cells #[.int .i64 c, v, .string ⟨b.toArray⟩] 38)).drew.cell? ⟨w.heap.size, 1, none⟩ = some v ∧ (w.alloc (.cells #[.int .i64 c, v, .string ⟨b.toArray⟩] 38)).drew.cell? ⟨w.heap.size, 2, none⟩ = some (.string ⟨b.toArray⟩) ∧ Hid (Below w.heap.size w ((w.alloc (.cells #[.int .i64 c, v, .string ⟨b.toArray⟩] 38)).drew))) := Lib.hid ⟨HS0.1.1, HS0.1.2.1, HS0.1.2.2, Lib.hid (Rec.below_drew HS0.2)⟩
  have SC : Hid (∀ u u' : World, u.cell? ⟨w.heap.size, 0, none⟩ = some (.int .i64 c) → u.cell? ⟨w.heap.size, 1, none⟩ = some v → u.cell? ⟨w.heap.size, 2, none⟩ = some (.string ⟨b.toArray⟩) → Hid (Below w.heap.size w u) → Below u.heap.size u u' → (u'.cell? ⟨w.heap.size, 0, none⟩ = some (.int .i64 c) ∧ u'.cell? ⟨w.heap.size, 1, none⟩ = some v ∧ u'.cell? ⟨w.heap.size, 2, none⟩ = some (.string ⟨b.toArray⟩) ∧ Hid (Below w.heap.size w (u')))) := Lib.hid (fun u u' c0 c1 c2 hb hg => ⟨(hg.cell (p := ⟨w.heap.size, 0, none⟩) (Rec.lt_of_cell c0)).trans c0, (hg.cell (p := ⟨w.heap.size, 1, none⟩) (Rec.lt_of_cell c1)).trans c1, (hg.cell (p := ⟨w.heap.size, 2, none⟩) (Rec.lt_of_cell c2)).trans c2, Lib.hid (Base.then_below hb.out hg)⟩)
  have SA : Hid (∀ (u : World) (o : Obj), u.cell? ⟨w.heap.size, 0, none⟩ = some (.int .i64 c) → u.cell? ⟨w.heap.size, 1, none⟩ = some v → u.cell? ⟨w.heap.size, 2, none⟩ = some (.string ⟨b.toArray⟩) → Hid (Below w.heap.size w u) → ((u.alloc o).cell? ⟨w.heap.size, 0, none⟩ = some (.int .i64 c) ∧ (u.alloc o).cell? ⟨w.heap.size, 1, none⟩ = some v ∧ (u.alloc o).cell? ⟨w.heap.size, 2, none⟩ = some (.string ⟨b.toArray⟩) ∧ Hid (Below w.heap.size w ((u.alloc o))))) := Lib.hid (fun u o c0 c1 c2 hb => SC.out u _ c0 c1 c2 hb ((Below.refl _ _).alloc (Nat.le_refl _) o))
  clear h hl hc hn l1 l2 l3 hg HS0 ht hbl
  go_enter Tryd.func33, Tryd.ntmps33
  go_wp2
  go_region_held_law (fun u => u.cell? ⟨w.heap.size, 0, none⟩ = some (.int .i64 c) ∧ u.cell? ⟨w.heap.size, 1, none⟩ = some v ∧ u.cell? ⟨w.heap.size, 2, none⟩ = some (.string ⟨b.toArray⟩) ∧ Hid (Below w.heap.size w u))
    (first | exact HSD.out | (go_split_ands; refine SA.out _ _ ?_ ?_ ?_ ?_ <;> assumption) | (go_split_ands; refine SC.out _ _ ?_ ?_ ?_ ?_ hb1 <;> assumption) | (go_split_ands; refine SC.out _ _ ?_ ?_ ?_ ?_ hb2 <;> assumption) | (go_split_ands; refine SC.out _ _ ?_ ?_ ?_ ?_ hb3 <;> assumption) | (go_split_ands; refine SC.out _ _ ?_ ?_ ?_ ?_ hb4 <;> assumption) | go_keep)
    (first
      | (go_at_call 47; (with_reducible refine (HP.out _ (by go_split_ands; exact Hid.out (by assumption))).mono ?_); rintro e w1 ⟨rfl, hb1⟩)
      | (go_at_call 48; (with_reducible refine (HL.out _ (by go_split_ands; exact Hid.out (by assumption))).mono ?_); rintro e w3 ⟨rfl, hb3⟩)
      | (go_at_call 45; (with_reducible refine (HF.out _ (by go_split_ands; exact Hid.out (by assumption))).mono ?_); rintro e w2 ⟨rfl, hb2⟩)
      | (go_at_call 45; (with_reducible refine (HG.out _).mono ?_); rintro e w4 ⟨rfl, hb4⟩))
  all_goals (
    go_split_ands
    have HKB := Lib.hid (Hid.out ‹Hid (Below w.heap.size w w4)›)
    go_wp2
    go_ret
    exact ⟨ret_txt HE.out.symm, HKB.out⟩)

set_option maxRecDepth 100000 in
set_option maxHeartbeats 2000000 in
theorem spec_fmtr (c : Int) (v : Value) (B : Nat) (l : List Flds.Fld) (b : List UInt8) (w : World) (h : Flds.Holds w B v l) (hB : B ≤ w.heap.size) (hl : Flds.total l ≤ 1048576) (hbl : b.length ≤ 1048576) :
    Calls Tryd.prog 19 #[.agg #[.int .i64 c, v, .string ⟨b.toArray⟩]] w (TxtEnd (fmtRsp c l b) w) := by
  have HS0 := Lib.hid (bxr_start w c v b 38)
  have HY := Lib.hid h
  have HI := Lib.hid (spec_isr c v B l b _ (Flds.holds_below h (HS0.out.2.mono hB)) (Nat.le_trans hB HS0.out.2.size) hl hbl)
  unfold TxtEnd
  cases hok : rspOk c l b with
  | false =>
    have HE : Hid (fmtRsp c l b = []) := Lib.hid (by unfold fmtRsp; rw [hok]; rfl)
    rw [hok] at HI
    clear hok h hl hbl
    go_enter Tryd.func19, Tryd.ntmps19
    go_wp2_with (fail)
    go_at_call 13
    refine HI.out.mono ?_
    rintro e w1 ⟨rfl, hb1⟩
    have HB := Lib.hid (bxr_call HS0.out hb1).2
    clear hb1
    go_wp2
    go_ret
    exact ⟨ret_txt HE.out.symm, HB.out⟩
  | true =>
    have HE : Hid (fmtRsp c l b = rspTxt c l b) := Lib.hid (by unfold fmtRsp; rw [hok]; rfl)
    rw [hok] at HI
    have hc : -9223372036854775808 ≤ c ∧ c ≤ 9223372036854775807 := by
      unfold rspOk at hok
      simp only [Bool.and_eq_true, decide_eq_true_eq] at hok
      omega
    have HTX := Lib.hid (fun W (hb : Below w.heap.size w W) => spec_l11 c v B l b W (Flds.holds_below h (hb.mono hB)) (Nat.le_trans hB hb.size) hl hbl hc)
    unfold TxtEnd at HTX
    generalize rspTxt c l b = z at HE HTX
    clear hok h hl hbl hc
    go_enter Tryd.func19, Tryd.ntmps19
    go_wp2_with (fail)
    go_at_call 13
    refine HI.out.mono ?_
    rintro e w1 ⟨rfl, hb1⟩
    have HS1 := bxr_call HS0.out hb1
    have HB := Lib.hid HS1.2
    obtain ⟨⟨b0, b1, b2⟩, _⟩ := HS1
    clear hb1
    go_wp2_with (fail)
    go_at_call 32
    refine (HTX.out _ HB.out).mono ?_
    rintro e w2 ⟨rfl, hb2⟩
    have HB := Lib.hid (Base.then_below HB.out hb2)
    clear hb2 b0 b1 b2
    go_wp2
    go_ret
    exact ⟨ret_txt HE.out.symm, HB.out⟩

set_option maxRecDepth 100000 in
set_option maxHeartbeats 2000000 in
theorem impl_fmtr (c : Int) (v : Value) (B : Nat) (l : List Flds.Fld) (b : List UInt8) (w : World) (h : Flds.Holds w B v l) (hB : B ≤ w.heap.size) (hl : Flds.total l ≤ 1048576) (hbl : b.length ≤ 1048576) (ht : Fmt.Tens w) :
    Calls Tryd.prog 20 #[.agg #[.int .i64 c, v, .string ⟨b.toArray⟩]] w (TxtEnd (fmtRsp c l b) w) := by
  have HS0 := Lib.hid (bxr_start w c v b 38)
  have HY := Lib.hid h
  have HI := Lib.hid (impl_valid_rsp c v B l b _ (Flds.holds_below h (HS0.out.2.mono hB)) (Nat.le_trans hB HS0.out.2.size) hl hbl)
  unfold TxtEnd
  cases hok : rspOk c l b with
  | false =>
    have HE : Hid (fmtRsp c l b = []) := Lib.hid (by unfold fmtRsp; rw [hok]; rfl)
    rw [hok] at HI
    clear hok h hl hbl
    go_enter Tryd.func20, Tryd.ntmps20
    go_wp2_with (fail)
    go_at_call 29
    refine HI.out.mono ?_
    rintro e w1 ⟨rfl, hb1⟩
    have HB := Lib.hid (bxr_call HS0.out hb1).2
    clear hb1
    go_wp2
    go_ret
    exact ⟨ret_txt HE.out.symm, HB.out⟩
  | true =>
    have HE : Hid (fmtRsp c l b = rspTxt2 c l b) := Lib.hid (by unfold fmtRsp; rw [hok]; rw [rspTxt_eq]; rfl)
    rw [hok] at HI
    have hc : -9223372036854775808 ≤ c ∧ c ≤ 9223372036854775807 := by
      unfold rspOk at hok
      simp only [Bool.and_eq_true, decide_eq_true_eq] at hok
      omega
    have HTX := Lib.hid (fun W (hb : Below w.heap.size w W) => impl_text_rsp c v B l b W (Flds.holds_below h (hb.mono hB)) (Nat.le_trans hB hb.size) hl hbl hc (Fmt.tens_below ht hb))
    unfold TxtEnd at HTX
    generalize rspTxt2 c l b = z at HE HTX
    clear hok h hl hbl hc
    go_enter Tryd.func20, Tryd.ntmps20
    go_wp2_with (fail)
    go_at_call 29
    refine HI.out.mono ?_
    rintro e w1 ⟨rfl, hb1⟩
    have HS1 := bxr_call HS0.out hb1
    have HB := Lib.hid HS1.2
    obtain ⟨⟨b0, b1, b2⟩, _⟩ := HS1
    clear hb1
    go_wp2_with (fail)
    go_at_call 33
    refine (HTX.out _ HB.out).mono ?_
    rintro e w2 ⟨rfl, hb2⟩
    have HB := Lib.hid (Base.then_below HB.out hb2)
    clear hb2 b0 b1 b2
    go_wp2
    go_ret
    exact ⟨ret_txt HE.out.symm, HB.out⟩
end Go.Proofs.YtikpolmnadmkoaaDoor.Msg
