/-
  CONTRACTS AND PLAIN FACTS, several texts in one; each says in its own words what it proves.
-/
import Derived.Test.YtegaakgmfphcaaaGreatDoorSelA
import Derived.Handed
import Derived.HandedShaped
import Derived.Shelf.Vars
import Derived.Test.YtegaakgmfphcaaaGreatDoorSelH
import Derived.Test.YtegaakgmfphcaaaGreatDoorSelD
import Derived.Test.YtegaakgmfphcaaaGreatDoorSelL
import Derived.Test.YtegaakgmfphcaaaGreatDoorSelG
import Derived.Outline
import Derived.Test.YtegaakgmfphcaaaGreatDoorSelI
import Derived.Test.YtegaakgmfphcaaaGreatDoorSelK
import Derived.LoopTactic
import Derived.Deep.QuietTactic
import Derived.BigQuiet
set_option linter.unusedSimpArgs false
set_option linter.unusedVariables false

/-
  A WRAP: laid variables beside the world's shape. And: the library's bytealg.MaxLen holds some integer, at every later world.
-/
namespace Go.Proofs.YtegaakgmfphcaaaGreatDoor.Sh
open Go Go.RowKit
set_option linter.unusedVariables false
set_option maxRecDepth 1000000
variable {H : Type} {enc : TypeId × Value → H}

theorem and_shaped {a : Assume} {C : Checked} {os : Os} {f : FuncId} {fn : Func} {s : ChangeSpec} {conds : List PathCond} {apart fresh handsOn again : Bool} {X : World → Array Value → Prop}
    (hX : ∀ (w w' : World) (args : Array Value), w.heap = w'.heap → X w args → X w' args)
    (own : ownKnob C.prog.godebug = none) (started : os.Started) (noInit : C.prog.inits.idxOf? f = none) (hfn : C.prog.funcs[f]? = some fn)
    (witness : ∃ (w : World) (tape : Tape) (i : Input), w.os = os ∧ (w.forCall tape i).Shaped C.prog ∧ i.vars = [] ∧ Input.okWide C.prog (w.forCall tape i) .any w.heap.size f i ∧
      ((s.pre enc C.prog fn conds apart (w.forCall tape i).memory i.args ∧ X (w.forCall tape i).memory i.args) ∧ sizedMet enc C.prog fn (OpenSpec.ofChange s) apart (w.forCall tape i).memory i.args) ∧ a.holds C.prog (lone (Frame.enter C.prog f i.args .normal) [] (w.forCall tape i)))
    (contract : ∀ (W : World) (base : Nat) (args : Array Value) (ds gs : List (DataW H)) (before : List MemPlace),
      (∀ (j : Nat) t v, fn.params[j]? = some t → args[j]? = some v → Value.okWide C.prog W .any base t v) →
      DataW.Whole enc C.prog fn.params.toList s.vars apart W args.toList ds gs before →
      W.ShapedOpen C.prog → X W args →
      Calls C.prog f args W fun e W' => ∃ v, e = .returned v ∧ s.post enc C.prog fn apart fresh handsOn again W args v W') :
    ReturnsInHanded a C os f .any (fun w args => (s.pre enc C.prog fn conds apart w args ∧ X w args) ∧ sizedMet enc C.prog fn (OpenSpec.ofChange s) apart w args) (s.post enc C.prog fn apart fresh handsOn again) := by
  refine returnsInHanded_of_calls own started noInit witness ?_
  intro w tape i _ hsh _ hok hpre hholds
  obtain ⟨_, _, _, fn', hfn', _, _, _, _, hval⟩ := hok
  have e : fn' = fn := Option.some.inj (hfn'.symm.trans hfn)
  subst e
  obtain ⟨⟨⟨ds, gs, before, hw, hc⟩, hx⟩, hz⟩ := hpre
  have hw' := DataW.Whole.of_heap (w' := w.forCall tape i) (by rfl) hw
  refine (contract (w.forCall tape i) w.heap.size i.args ds gs before hval hw' hsh (hX _ _ _ (by rfl) hx)).mono fun e W' ⟨v, he, hp⟩ => ?_
  subst he
  exact ChangeSpec.post_blind hp

def MxL (w : World) : Prop := 0 < w.heap.size ∧ ∃ m, w.cell? ⟨0, 0, none⟩ = some (.int .i64 m)
theorem mxl_below {w w' : World} (h : MxL w) (hb : Below w.heap.size w w') : MxL w' := by
  obtain ⟨hg, m, hc⟩ := h
  exact ⟨Nat.lt_of_lt_of_le hg hb.size, m, (hb.cell (p := ⟨0, 0, none⟩) hg).trans hc⟩
theorem mxl_of {W : World} (h : W.ShapedOpen Tryz.prog) : MxL W := by
  obtain ⟨m, hc⟩ := Go.Proofs.cell_of_shapedOpen_int (g := 0) (zero := #[.int .i64 0]) (t := 3) h (of_decide_eq_true (by kernel_rfl)) (by kernel_rfl) rfl (by kernel_rfl) (by kernel_rfl) Tryz.underlying3
  exact ⟨World.block_lt_of_cell? _ _ hc, m, hc⟩
end Go.Proofs.YtegaakgmfphcaaaGreatDoor.Sh

/-
  PLAIN FACTS: a block of cells that the call has laid, read behind what only adds, behind a write into it, and behind a write elsewhere.
-/
namespace Go.Proofs.YtegaakgmfphcaaaGreatDoor.Kept
open Go Go.RowKit
set_option linter.unusedVariables false
set_option maxRecDepth 1000000

/-- The block g holds these values, and may be written. -/
structure Box (W : World) (g : Nat) (xs : List Value) : Prop where
  cell : ∀ j u, xs[j]? = some u → W.cell? ⟨g, j, none⟩ = some u
  frz : ∀ j, W.frozen? ⟨g, j, none⟩ = false
  lt : g < W.heap.size
theorem Box.new {w : World} {T : TypeId} {a : Array Value} : Box (w.alloc (.cells a T)) w.heap.size a.toList :=
  ⟨fun j u h => by rw [World.cell?_alloc_new]; simpa using h, fun j => by simp [go_sem], by simp⟩
theorem Box.below {W W' : World} {g : Nat} {xs : List Value} (h : Box W g xs) (hb : Below W.heap.size W W') : Box W' g xs :=
  ⟨fun j u e => (hb.cell (p := ⟨g, j, none⟩) h.lt).trans (h.cell j u e), fun j => (hb.frozen (p := ⟨g, j, none⟩) h.lt).trans (h.frz j), Nat.lt_of_lt_of_le h.lt hb.size⟩
theorem Box.alloc {W : World} {g : Nat} {xs : List Value} (h : Box W g xs) (o : Obj) : Box (W.alloc o) g xs := h.below ((Below.refl _ _).alloc (Nat.le_refl _) _)
theorem Box.same {W : World} {g k : Nat} {xs : List Value} (h : Box W g xs) (hk : k < xs.length) (v : Value) : Box (W.setCell ⟨g, k, none⟩ v) g (xs.set k v) :=
  ⟨fun j u e => by
    by_cases hj : j = k
    · subst hj
      obtain ⟨u0, hu0⟩ : ∃ u0, xs[j]? = some u0 := ⟨xs[j], by simp [hk]⟩
      rw [World.cell?_setCell_same _ _ _ (h.cell j u0 hu0)]
      simpa [hk] using e
    · rw [World.cell?_setCell_other _ _ _ _ (fun e => hj (by cases e; rfl))]
      exact h.cell j u (by rw [List.getElem?_set_ne (fun e => hj e.symm)] at e; exact e), fun j => by rw [World.frozen?_setCell]; exact h.frz j, by rw [World.size_setCell]; exact h.lt⟩
theorem Box.other {W : World} {g g' k : Nat} {xs : List Value} (h : Box W g xs) (hne : g' ≠ g) (v : Value) : Box (W.setCell ⟨g', k, none⟩ v) g xs :=
  ⟨fun j u e => by rw [World.cell?_setCell_other _ _ _ _ (fun e => hne (by cases e; rfl))]; exact h.cell j u e, fun j => by rw [World.frozen?_setCell]; exact h.frz j, by rw [World.size_setCell]; exact h.lt⟩
end Go.Proofs.YtegaakgmfphcaaaGreatDoor.Kept

/-
  CONTRACTS of the program's parseQuality and ParseQualities: the qualities of a text, in memory of their own; nothing that was there before is changed.
-/
namespace Go.Proofs.YtegaakgmfphcaaaGreatDoor.Qua
open Go Go.RowKit
set_option linter.unusedVariables false
set_option maxRecDepth 1000000
set_option maxRecDepth 1000000

theorem split59 (s : ByteArray) (w : World) (hs : s.size ≤ 4194304) (hm : Sh.MxL w) :
    Calls Tryz.prog 61 #[.string s, .string ⟨#[59]⟩] w fun e w' => e = .returned (.slice (some ⟨w.heap.size, 0, none⟩) (Spc.spl 59 s.data.toList).length (Spc.spl 59 s.data.toList).length) ∧ Strs.At w' w.heap.size 0 (Spc.spl 59 s.data.toList) ∧ Below w.heap.size w w' ∧ w.heap.size < w'.heap.size := by
  obtain ⟨hg, m, hc⟩ := hm
  have hl := Spc.split_len 59 s
  have ha := Lib.splitB_all ⟨#[59]⟩ (by decide) 0 _ s rfl
  rw [hl] at ha
  have h := Tryz.strings_Split s ⟨#[59]⟩ m w (by omega) hc (by decide)
  rw [← ha] at h
  refine h.mono ?_
  rintro e w' ⟨rfl, rfl⟩
  refine ⟨rfl, fun j hj => ?_, (Below.refl _ _).alloc (Nat.le_refl _) _, by simp⟩
  · rw [World.cell?_alloc_new]
    have hjl : j < (Lib.splitB ⟨#[59]⟩ 0 (Lib.countB s ⟨#[59]⟩) s).length := by rw [hl]; exact hj
    have hsp := Spc.split_spl 59 s
    have e1 : (Spc.spl 59 s.data.toList).getD j [] = ((Lib.splitB ⟨#[59]⟩ 0 (Lib.countB s ⟨#[59]⟩) s)[j]).data.toList := by
      rw [← hsp]; simp [List.getD, hjl]
    rw [e1]
    simp [Strs.sv, hjl]
theorem trim_i (a : List UInt8) (hl : a.length ≤ 1048576) (W : World) : Calls Tryz.prog 72 #[.string ⟨a.toArray⟩] W fun e w' => e = .returned (.string ⟨(Tx.trim a).toArray⟩) ∧ Below W.heap.size W w' := Tx.impl_trim ⟨a.toArray⟩ W (by simp [ByteArray.size]; omega)
def qval (o : Option T) : Value := match o with | some f => .tuple #[.agg #[.string ⟨f.1.toArray⟩, .int .i64 f.2], .bool true] | none => .tuple #[.agg #[.string ⟨#[]⟩, .int .i64 0], .bool false]
theorem qval_some {o : Option T} {f : T} (h : o = some f) : .tuple #[.agg #[.string ⟨f.1.toArray⟩, .int .i64 f.2], .bool true] = qval o := by rw [h]; rfl
theorem qval_none {o : Option T} (h : o = none) : .tuple #[.agg #[.string ⟨#[]⟩, .int .i64 0], .bool false] = qval o := by rw [h]; rfl
/-- The result's own cells are there behind what a call did. -/
theorem res_two {w w1 : World} {T : TypeId} {x y : Value} (hb : Below (w.alloc (.cells #[x, y] T)).heap.size (w.alloc (.cells #[x, y] T)) w1) :
    w1.cell? ⟨w.heap.size, 0, none⟩ = some x ∧ w1.cell? ⟨w.heap.size, 1, none⟩ = some y ∧ w1.frozen? ⟨w.heap.size, 0, none⟩ = false ∧ w1.frozen? ⟨w.heap.size, 1, none⟩ = false :=
  ⟨(Kept.one hb).1 0 _ rfl, (Kept.one hb).1 1 _ rfl, (Kept.one hb).2 0, (Kept.one hb).2 1⟩
theorem qel_eq {x : List UInt8} {P : List (List UInt8)} (h : Spc.spl 59 x = P) : qel x = if Tx.token (Tx.trim (P.getD 0 [])) = true ∧ P.length ≤ 2 then (if P.length = 2 then (qpar (P.getD 1 [])).map (fun n => (Tx.lower (Tx.trim (P.getD 0 [])), (n : Int))) else some (Tx.lower (Tx.trim (P.getD 0 [])), 1000)) else none := by rw [← h]; rfl


set_option maxHeartbeats 4000000 in
theorem impl_pq (l : List UInt8) (w : World) (hl : l.length ≤ 1048576) (he : Par.Errs w) (hm : Sh.MxL w) :
    Calls Tryz.prog 55 #[.string ⟨l.toArray⟩] w fun e w' => e = .returned (qval (qel l)) ∧ Below w.heap.size w w' := by
  have hba : Below w.heap.size w (w.alloc (.cells #[.string ⟨#[]⟩, .int .i64 0] 78)) := (Below.refl _ _).alloc (Nat.le_refl _) _
  have HBA := Lib.hid hba
  have HSP := Lib.hid (split59 ⟨l.toArray⟩ (w.alloc (.cells #[.string ⟨#[]⟩, .int .i64 0] 78)) (by simp [ByteArray.size]; omega) (Sh.mxl_below hm hba))
  have HER := Lib.hid (fun W (hb : Below w.heap.size w W) => Par.errs_below he hb)
  have hmem : ∀ x ∈ Spc.spl 59 l, x.length ≤ 1048576 := fun x hx => Nat.le_trans (Spc.spl_mem 59 l x hx) hl
  have hcl := Spc.spl_len 59 l
  have hne : 0 < (Spc.spl 59 l).length := List.length_pos_iff.2 (Spc.spl_ne 59 l)
  rw [show (⟨l.toArray⟩ : ByteArray).data.toList = l from rfl] at HSP
  obtain ⟨P, hP⟩ : ∃ P, Spc.spl 59 l = P := ⟨_, rfl⟩
  have HQ := Lib.hid (qel_eq hP)
  rw [hP] at HSP hmem hcl hne
  generalize qel l = r at *
  have hl0 : (P.getD 0 []).length ≤ 1048576 := hmem _ (Rec.getD_mem (z := []) hne)
  have HT := Lib.hid (trim_i (P.getD 0 []) hl0)
  have hlt : (Tx.trim (P.getD 0 [])).length ≤ 1048576 := Nat.le_trans (Tx.trim_short _) hl0
  have HK := Lib.hid (Dir.tok_i (Tx.trim (P.getD 0 [])) hlt)
  have HLW := Lib.hid (Dir.low_i (Tx.trim (P.getD 0 [])) hlt)
  have HPL : Hid (P.length ≤ 1048577) := Lib.hid (by omega)
  have hs1 : (w.alloc (.cells #[.string ⟨#[]⟩, .int .i64 0] 78)).heap.size = w.heap.size + 1 := by simp
  rw [hs1] at HSP
  clear hP hcl he hm hba hlt hl
  obtain ⟨p0, hp0⟩ : ∃ p0, P.getD 0 [] = p0 := ⟨_, rfl⟩
  rw [hp0] at HT HK HLW HQ
  generalize Tx.trim p0 = nm at *
  generalize hlw : Tx.lower nm = lw at *
  clear hl0 hlw
  have hpi : 0 < (P.length : Int) := by omega
  cases htk : Tx.token nm with
  | false =>
    have HF := Lib.hid (qval_none (HQ.out.trans (if_neg (fun h => by rw [htk] at h; exact Bool.noConfusion h.1))))
    rw [htk] at HK
    clear HQ HER HLW htk
    go_enter Tryz.func55, Tryz.ntmps55
    go_wp2_with (fail)
    go_at_call 61
    refine HSP.out.mono ?_
    rintro e w1 ⟨rfl, hat, b1, hgt⟩
    have HS : Hid (Below (w.alloc (.cells #[.string ⟨#[]⟩, .int .i64 0] 78)).heap.size (w.alloc (.cells #[.string ⟨#[]⟩, .int .i64 0] 78)) w1) := Lib.hid (by rw [hs1]; exact b1)
    have HAT := Lib.hid hat
    have HGT := Lib.hid hgt
    have c0 : w1.cell? ⟨w.heap.size + 1, 0, none⟩ = some (.string ⟨p0.toArray⟩) := by have h := hat 0 hne; rw [hp0] at h; exact h
    clear b1 hat hgt
    go_wp2_with (fail)
    go_at_call 72
    refine (HT.out _).mono ?_
    rintro e w2 ⟨rfl, b2⟩
    have HS := Lib.hid (HS.out.trans (b2.mono HS.out.size))
    have HAT := Lib.hid (Strs.at_below HAT.out b2 HGT.out)
    have HGT := Lib.hid (Nat.lt_of_lt_of_le HGT.out b2.size)
    clear b2 c0
    go_wp2_with (fail)
    go_at_call 76
    refine (HK.out _).mono ?_
    rintro e w3 ⟨rfl, rfl⟩
    obtain ⟨q1, q2, q3, q4⟩ := res_two HS.out
    have HBF := Lib.hid (HBA.out.trans (HS.out.mono HBA.out.size))
    go_wp2
    refine bodyPost_ret (v := .tuple #[.agg #[.string ⟨#[]⟩, .int .i64 0], .bool false]) (by simp [results, Tryz.results55, go_sem, q1, q2, q3, q4]) rfl ⟨congrArg Ending.returned HF.out, ?_⟩
    exact (HBF.out.setCell (Nat.le_refl _) _).setCell (Nat.le_refl _) _
  | true =>
    rw [htk] at HK
    by_cases h3 : 2 < (P.length : Int)
    · have HF := Lib.hid (qval_none (HQ.out.trans (if_neg (fun h => by have := h.2; omega))))
      clear HQ HER HLW htk
      go_enter Tryz.func55, Tryz.ntmps55
      go_wp2_with (fail)
      go_at_call 61
      refine HSP.out.mono ?_
      rintro e w1 ⟨rfl, hat, b1, hgt⟩
      have HS : Hid (Below (w.alloc (.cells #[.string ⟨#[]⟩, .int .i64 0] 78)).heap.size (w.alloc (.cells #[.string ⟨#[]⟩, .int .i64 0] 78)) w1) := Lib.hid (by rw [hs1]; exact b1)
      have HAT := Lib.hid hat
      have HGT := Lib.hid hgt
      have c0 : w1.cell? ⟨w.heap.size + 1, 0, none⟩ = some (.string ⟨p0.toArray⟩) := by have h := hat 0 hne; rw [hp0] at h; exact h
      clear b1 hat hgt
      go_wp2_with (fail)
      go_at_call 72
      refine (HT.out _).mono ?_
      rintro e w2 ⟨rfl, b2⟩
      have HS := Lib.hid (HS.out.trans (b2.mono HS.out.size))
      have HAT := Lib.hid (Strs.at_below HAT.out b2 HGT.out)
      have HGT := Lib.hid (Nat.lt_of_lt_of_le HGT.out b2.size)
      clear b2 c0
      go_wp2_with (fail)
      go_at_call 76
      refine (HK.out _).mono ?_
      rintro e w3 ⟨rfl, rfl⟩
      obtain ⟨q1, q2, q3, q4⟩ := res_two HS.out
      have HBF := Lib.hid (HBA.out.trans (HS.out.mono HBA.out.size))
      go_wp2
      refine bodyPost_ret (v := .tuple #[.agg #[.string ⟨#[]⟩, .int .i64 0], .bool false]) (by simp [results, Tryz.results55, go_sem, q1, q2, q3, q4]) rfl ⟨congrArg Ending.returned HF.out, ?_⟩
      exact (HBF.out.setCell (Nat.le_refl _) _).setCell (Nat.le_refl _) _
    by_cases h2 : (P.length : Int) = 2
    case neg =>
      have HF := Lib.hid (qval_some (HQ.out.trans ((if_pos ⟨htk, by omega⟩).trans (if_neg (by omega)))))
      have hb2 : ((P.length : Int) == 2) = false := by rw [beq_eq_false_iff_ne]; exact h2
      clear HQ HER htk
      go_enter Tryz.func55, Tryz.ntmps55
      go_wp2_with (fail)
      go_at_call 61
      refine HSP.out.mono ?_
      rintro e w1 ⟨rfl, hat, b1, hgt⟩
      have HS : Hid (Below (w.alloc (.cells #[.string ⟨#[]⟩, .int .i64 0] 78)).heap.size (w.alloc (.cells #[.string ⟨#[]⟩, .int .i64 0] 78)) w1) := Lib.hid (by rw [hs1]; exact b1)
      have HAT := Lib.hid hat
      have HGT := Lib.hid hgt
      have c0 : w1.cell? ⟨w.heap.size + 1, 0, none⟩ = some (.string ⟨p0.toArray⟩) := by have h := hat 0 hne; rw [hp0] at h; exact h
      clear b1 hat hgt
      go_wp2_with (fail)
      go_at_call 72
      refine (HT.out _).mono ?_
      rintro e w2 ⟨rfl, b2⟩
      have HS := Lib.hid (HS.out.trans (b2.mono HS.out.size))
      have HAT := Lib.hid (Strs.at_below HAT.out b2 HGT.out)
      have HGT := Lib.hid (Nat.lt_of_lt_of_le HGT.out b2.size)
      clear b2 c0
      go_wp2_with (fail)
      go_at_call 76
      refine (HK.out _).mono ?_
      rintro e w3 ⟨rfl, rfl⟩
      go_wp2_with (fail)
      go_at_call 27
      refine (HLW.out _).mono ?_
      rintro e w5 ⟨rfl, b5⟩
      have HS := Lib.hid (HS.out.trans (b5.mono HS.out.size))
      clear b5
      obtain ⟨q1, q2, q3, q4⟩ := res_two HS.out
      have HBF := Lib.hid (HBA.out.trans (HS.out.mono HBA.out.size))
      go_wp2
      refine bodyPost_ret (v := .tuple #[.agg #[.string ⟨lw.toArray⟩, .int .i64 1000], .bool true]) (by simp [results, Tryz.results55, go_sem, q1, q2, q3, q4]) rfl ⟨congrArg Ending.returned HF.out, ?_⟩
      exact (HBF.out.setCell (Nat.le_refl _) _).setCell (Nat.le_refl _) _
    have hone : 1 < P.length := by omega
    have hoi : 1 < (P.length : Int) := by omega
    have hl1 : (P.getD 1 []).length ≤ 1048576 := hmem _ (Rec.getD_mem (z := []) hone)
    have HPA := Lib.hid (fun W (hb : Below w.heap.size w W) => impl_param (P.getD 1 []) W hl1 (HER.out W hb))
    have HQ2 : Hid (r = (qpar (P.getD 1 [])).map (fun n => (lw, (n : Int)))) := Lib.hid (HQ.out.trans ((if_pos ⟨htk, by omega⟩).trans (if_pos (by omega))))
    obtain ⟨p1, hp1⟩ : ∃ p1, P.getD 1 [] = p1 := ⟨_, rfl⟩
    rw [hp1] at HPA HQ2
    have hb2 : ((P.length : Int) == 2) = true := by rw [h2]; rfl
    clear HQ hl1 htk HER
    cases hq : qpar p1 with
    | none =>
      have HF := Lib.hid (qval_none (HQ2.out.trans (by rw [hq]; rfl)))
      rw [hq, show wpair none = .tuple #[.int .i64 0, .bool false] from rfl] at HPA
      clear HQ2 hq HLW
      go_enter Tryz.func55, Tryz.ntmps55
      go_wp2_with (fail)
      go_at_call 61
      refine HSP.out.mono ?_
      rintro e w1 ⟨rfl, hat, b1, hgt⟩
      have HS : Hid (Below (w.alloc (.cells #[.string ⟨#[]⟩, .int .i64 0] 78)).heap.size (w.alloc (.cells #[.string ⟨#[]⟩, .int .i64 0] 78)) w1) := Lib.hid (by rw [hs1]; exact b1)
      have HAT := Lib.hid hat
      have HGT := Lib.hid hgt
      have c0 : w1.cell? ⟨w.heap.size + 1, 0, none⟩ = some (.string ⟨p0.toArray⟩) := by have h := hat 0 hne; rw [hp0] at h; exact h
      clear b1 hat hgt
      go_wp2_with (fail)
      go_at_call 72
      refine (HT.out _).mono ?_
      rintro e w2 ⟨rfl, b2⟩
      have HS := Lib.hid (HS.out.trans (b2.mono HS.out.size))
      have HAT := Lib.hid (Strs.at_below HAT.out b2 HGT.out)
      have HGT := Lib.hid (Nat.lt_of_lt_of_le HGT.out b2.size)
      clear b2 c0
      go_wp2_with (fail)
      go_at_call 76
      refine (HK.out _).mono ?_
      rintro e w3 ⟨rfl, rfl⟩
      have c1 : w2.cell? ⟨w.heap.size + 1, 1, none⟩ = some (.string ⟨p1.toArray⟩) := by have h := HAT.out 1 hone; rw [hp1] at h; exact h
      go_wp2_with (fail)
      go_at_call 77
      refine (HPA.out _ (HBA.out.trans (HS.out.mono HBA.out.size))).mono ?_
      rintro e w4 ⟨rfl, b4⟩
      have HS := Lib.hid (HS.out.trans (b4.mono HS.out.size))
      clear b4 c1
      obtain ⟨q1, q2, q3, q4⟩ := res_two HS.out
      have HBF := Lib.hid (HBA.out.trans (HS.out.mono HBA.out.size))
      go_wp2
      refine bodyPost_ret (v := .tuple #[.agg #[.string ⟨#[]⟩, .int .i64 0], .bool false]) (by simp [results, Tryz.results55, go_sem, q1, q2, q3, q4]) rfl ⟨congrArg Ending.returned HF.out, ?_⟩
      exact (HBF.out.setCell (Nat.le_refl _) _).setCell (Nat.le_refl _) _
    | some n =>
      have HF := Lib.hid (qval_some (f := (lw, (n : Int))) (HQ2.out.trans (by rw [hq]; rfl)))
      rw [hq, show wpair (some n) = .tuple #[.int .i64 (n : Int), .bool true] from rfl] at HPA
      clear HQ2 hq
      go_enter Tryz.func55, Tryz.ntmps55
      go_wp2_with (fail)
      go_at_call 61
      refine HSP.out.mono ?_
      rintro e w1 ⟨rfl, hat, b1, hgt⟩
      have HS : Hid (Below (w.alloc (.cells #[.string ⟨#[]⟩, .int .i64 0] 78)).heap.size (w.alloc (.cells #[.string ⟨#[]⟩, .int .i64 0] 78)) w1) := Lib.hid (by rw [hs1]; exact b1)
      have HAT := Lib.hid hat
      have HGT := Lib.hid hgt
      have c0 : w1.cell? ⟨w.heap.size + 1, 0, none⟩ = some (.string ⟨p0.toArray⟩) := by have h := hat 0 hne; rw [hp0] at h; exact h
      clear b1 hat hgt
      go_wp2_with (fail)
      go_at_call 72
      refine (HT.out _).mono ?_
      rintro e w2 ⟨rfl, b2⟩
      have HS := Lib.hid (HS.out.trans (b2.mono HS.out.size))
      have HAT := Lib.hid (Strs.at_below HAT.out b2 HGT.out)
      have HGT := Lib.hid (Nat.lt_of_lt_of_le HGT.out b2.size)
      clear b2 c0
      go_wp2_with (fail)
      go_at_call 76
      refine (HK.out _).mono ?_
      rintro e w3 ⟨rfl, rfl⟩
      have c1 : w2.cell? ⟨w.heap.size + 1, 1, none⟩ = some (.string ⟨p1.toArray⟩) := by have h := HAT.out 1 hone; rw [hp1] at h; exact h
      go_wp2_with (fail)
      go_at_call 77
      refine (HPA.out _ (HBA.out.trans (HS.out.mono HBA.out.size))).mono ?_
      rintro e w4 ⟨rfl, b4⟩
      have HS := Lib.hid (HS.out.trans (b4.mono HS.out.size))
      clear b4 c1
      go_wp2_with (fail)
      go_at_call 27
      refine (HLW.out _).mono ?_
      rintro e w5 ⟨rfl, b5⟩
      have HS := Lib.hid (HS.out.trans (b5.mono HS.out.size))
      clear b5
      obtain ⟨q1, q2, q3, q4⟩ := res_two HS.out
      have HBF := Lib.hid (HBA.out.trans (HS.out.mono HBA.out.size))
      go_wp2
      refine bodyPost_ret (v := .tuple #[.agg #[.string ⟨lw.toArray⟩, .int .i64 (n : Int)], .bool true]) (by simp [results, Tryz.results55, go_sem, q1, q2, q3, q4]) rfl ⟨congrArg Ending.returned HF.out, ?_⟩
      exact (HBF.out.setCell (Nat.le_refl _) _).setCell (Nat.le_refl _) _


def Parsed (s : List UInt8) (w : World) (e : Ending) (w' : World) : Prop := ∃ v, e = .returned v ∧ Own w' w.heap.size v (pqs s) ∧ Below w.heap.size w w'
theorem ret_parsed {s : List UInt8} {w wr : World} {u : Value} {l : List T} (he : l = pqs s) (ho : Own wr w.heap.size u l) (hb : Below w.heap.size w wr) : Parsed s w (.returned u) wr := by subst he; exact ⟨u, rfl, ho, hb⟩

set_option maxHeartbeats 4000000 in
theorem impl_pqs (l : List UInt8) (w : World) (hl : l.length ≤ 1048576) (he : Par.Errs w) (hm : Sh.MxL w) :
    Calls Tryz.prog 32 #[.string ⟨l.toArray⟩] w (Parsed l w) := by
  obtain ⟨i0, hi, hz0, hz1, hz2⟩ := info_parts info_r
  have HS := Lib.hid (fun W => Tx.impl_split ⟨l.toArray⟩ W (Nat.le_trans hl (by decide)))
  have HEL := Lib.hid (Tx.split_elem l)
  have HCN := Lib.hid (Tx.split_count l)
  have HEM := Lib.hid (fun W (hb : Below w.heap.size w W) => And.intro (Par.errs_below he hb) (Sh.mxl_below hm hb))
  have HO := Lib.hid (own_lit_nil w)
  have HDP : Hid (pqs l = quals (Tx.split l)) := Lib.hid rfl
  clear he hm
  go_enter Tryz.func32, Tryz.ntmps32
  go_wp2_with (fail)
  go_at_call 26
  refine (HS.out _).mono ?_
  rintro e w1 ⟨vx, rfl, ox, hb1⟩
  have HOX : Hid (w1.ownsRow w.heap.size 9 1 vx (Tx.split l).length (Strs.svs (Tx.split l))) := Lib.hid (Rec.own_mono ox (by simp))
  have HO := Lib.hid (Rec.row_below HO.out hb1)
  have HB := Lib.hid (((Below.refl w.heap.size w).alloc (Nat.le_refl _) (.cells #[] 78)).trans (hb1.mono (by simp)))
  clear ox hb1 HS
  generalize Tx.split l = xs at *
  obtain ⟨ax, cx, rfl, hax⟩ := Rec.shape_at HOX.out
  have HAX := Lib.hid hax
  have hxl : xs.length ≤ 1048577 := by have := HCN.out; omega
  clear hax
  go_wp2
  go_loopw [3, 12] (fun u i wr => ∃ k : Nat, k ≤ xs.length ∧ i = .int .i64 (k : Int) ∧ wr.ownsRow w.heap.size 78 2 u (quals (xs.take k)).length (fcs (quals (xs.take k))) ∧ wr.ownsRow w.heap.size 9 1 (.slice ax xs.length cx) xs.length (Strs.svs xs) ∧ Below w.heap.size w wr) (fun _ i _ => xs.length - (intOf i).toNat)
  case atStart => exact ⟨0, Nat.zero_le _, rfl, HO.out, HOX.out, HB.out⟩
  case round =>
    clear HO HOX HB
    obtain ⟨k, hk, rfl, hown, hox, hb⟩ := hrel
    have HVR := Lib.hid (HEM.out _ hb)
    have HB := Lib.hid hb
    have HOX := Lib.hid hox
    have HO := Lib.hid hown
    clear hown hox hb
    by_cases hlt : k < xs.length
    · obtain ⟨gx, rfl⟩ := HAX.out (by omega)
      have c0 := Strs.own_cell HOX.out hlt
      have HXL : Hid ((xs.getD k []).length ≤ 1048576) := Lib.hid (Nat.le_trans (HEL.out _ (Rec.getD_mem (z := []) hlt)) hl)
      have HDL : Hid ((quals (xs.take k)).length ≤ 1048577) := Lib.hid (by have h1 := quals_len (xs.take k); rw [List.length_take] at h1; omega)
      unfold Strs.sv at c0
      have HR : Hid (∀ d, qel (xs.getD k []) = some d → quals (xs.take (k + 1)) = quals (xs.take k) ++ [d]) := Lib.hid (fun d hd => quals_yes hlt hd)
      have HN : Hid (qel (xs.getD k []) = none → quals (xs.take (k + 1)) = quals (xs.take k)) := Lib.hid (fun hd => quals_no hlt hd)
      generalize xs.getD k [] = x at c0 HXL HR HN
      have HP := Lib.hid (impl_pq x wr HXL.out HVR.out.1 HVR.out.2)
      cases hd : qel x with
      | none =>
        have HM := Lib.hid (HN.out hd)
        rw [hd, show qval none = .tuple #[.agg #[.string ⟨#[]⟩, .int .i64 0], .bool false] from rfl] at HP
        clear hd HR HN
        go_wp2_with (fail)
        go_at_call 55
        refine HP.out.mono ?_
        rintro e w2 ⟨rfl, hb2⟩
        have HO := Lib.hid (row_below HO.out hb2)
        have HOX := Lib.hid (Rec.row_below HOX.out hb2)
        have HB := Lib.hid (Base.then_below HB.out hb2)
        clear hb2
        have HA : Hid (∀ a, Below w2.heap.size w2 (w2.alloc (.cells a 78))) := Lib.hid (fun a => (Below.refl _ _).alloc (Nat.le_refl _) _)
        go_wp2
        go_roundw
        case rel => exact ⟨k + 1, by omega, by go_num, by rw [HM.out]; exact row_below HO.out (HA.out _), Rec.row_below HOX.out (HA.out _), Base.then_below HB.out (HA.out _)⟩
        case measure => simp [intOf]; omega
      | some d =>
        have HM := Lib.hid (HR.out d hd)
        obtain ⟨x0, y0⟩ := d
        rw [hd, show qval (some (x0, y0)) = .tuple #[.agg #[.string ⟨x0.toArray⟩, .int .i64 y0], .bool true] from rfl] at HP
        clear hd HR HN
        go_wp2_with (fail)
        go_at_call 55
        refine HP.out.mono ?_
        rintro e w2 ⟨rfl, hb2⟩
        have HO := Lib.hid (row_below HO.out hb2)
        have HOX := Lib.hid (Rec.row_below HOX.out hb2)
        have HB := Lib.hid (Base.then_below HB.out hb2)
        clear hb2 HP
        generalize quals (xs.take k) = ds at HO HM HDL
        have HA : Hid (Below w2.heap.size w2 (w2.alloc (.cells #[.string ⟨x0.toArray⟩, .int .i64 y0] 78))) := Lib.hid ((Below.refl _ _).alloc (Nat.le_refl _) _)
        have hown := row_below HO.out HA.out
        have HOX := Lib.hid (Rec.row_below HOX.out HA.out)
        have HB := Lib.hid (Base.then_below HB.out HA.out)
        have HNE := Lib.hid (Rec.row_apart HOX.out hown (by decide))
        have hL := fcs_len ds
        have HNW := Lib.hid (Rec.news (w2.alloc (.cells #[.string ⟨x0.toArray⟩, .int .i64 y0] 78)) [.string ⟨x0.toArray⟩, .int .i64 y0] 78)
        go_wp2_with (at_builtin; refine wpList_append_own _ rfl (.tmp 22) (.tmp 24) 60 rfl w.heap.size 78 i0 (.agg #[.string ⟨#[]⟩, .int .i64 0]) 2 24 Tryz.underlying60 hi hz0 hz1 hz2 rfl (by decide) _ _ _ rfl (hown.alloc _) ⟨w2.heap.size + 1, 0, none⟩ 1 1 [.string ⟨x0.toArray⟩, .int .i64 y0] rfl rfl (by have h := HNW.out; (try rw [World.size_alloc] at h); exact h) (cs_one (x0, y0)) (by have := HDL.out; unfold maxLen; omega) (by have := HDL.out; omega) (by have := HB.out.size; simp at this ⊢; omega) ?_; intro v1 wa hown1 hg1 _)
        have R := Lib.hid (push_own (f := (x0, y0)) hown HB.out (Nat.le_refl _) hown1 hg1)
        have HA2 := Lib.hid ((Below.refl (w2.alloc (.cells #[.string ⟨x0.toArray⟩, .int .i64 y0] 78)).heap.size (w2.alloc (.cells #[.string ⟨x0.toArray⟩, .int .i64 y0] 78))).alloc (Nat.le_refl _) (.cells #[.string ⟨x0.toArray⟩, .int .i64 y0] 78))
        have ROX := Lib.hid (Rec.row_grown (Rec.row_below HOX.out HA2.out) hg1 HNE.out)
        clear hown hown1 hg1
        go_wp2
        go_roundw
        case rel => exact ⟨k + 1, by omega, by go_num, by rw [HM.out]; exact R.out.1, ROX.out, R.out.2⟩
        case measure => simp [intOf]; omega
    · have HE : Hid (quals (xs.take k) = pqs l) := Lib.hid (by rw [HDP.out, List.take_of_length_le (by omega)])
      go_wp2
      go_ret
      exact ret_parsed HE.out HO.out HB.out
end Go.Proofs.YtegaakgmfphcaaaGreatDoor.Qua

/-
  CONTRACT of the model's ParseQualities: the qualities of a text, in memory of their own; nothing that was there before is changed.
-/
namespace Go.Proofs.YtegaakgmfphcaaaGreatDoor.Qua
open Go Go.RowKit
set_option linter.unusedVariables false
set_option maxRecDepth 1000000
set_option maxRecDepth 1000000

theorem low_len (a : List UInt8) : (Tx.lower a).length = a.length := by unfold Tx.lower; simp
theorem spl_s (x : List UInt8) (hl : x.length ≤ 1048576) (W : World) : Calls Tryz.prog 65 #[.string ⟨x.toArray⟩, .int .u8 59] W fun e w' => ∃ v, e = .returned v ∧ Strs.Own w' W.heap.size v (Spc.spl 59 x) ∧ Below W.heap.size W w' := Spc.spec_spl 59 ⟨x.toArray⟩ W (by simp [ByteArray.size]; omega)
end Go.Proofs.YtegaakgmfphcaaaGreatDoor.Qua

/-
  CONTRACTS of QualityOf, the model's and the program's: the weight of the first element with a name, else that of the first star, else 0; nothing that was there before is changed.
-/
namespace Go.Proofs.YtegaakgmfphcaaaGreatDoor.Qua
open Go Go.RowKit
set_option linter.unusedVariables false
set_option maxRecDepth 1000000

/-- The weight of the first element with this name. -/
def fst1 (n : List UInt8) (l : List T) : Option Int := (l.find? (fun f => f.1 == n)).map (·.2)
def star (l : List T) : Int := (fst1 [42] l).getD 0
def qof (n : List UInt8) (l : List T) : Int := (fst1 n l).getD (star l)
theorem star_nil : star [] = 0 := rfl
theorem star_drop {l : List T} {k : Nat} (h : k < l.length) : star (l.drop k) = if (l.getD k nov).1 = [42] then (l.getD k nov).2 else star (l.drop (k + 1)) := by
  rw [List.drop_eq_getElem_cons h]
  unfold star fst1
  rw [List.find?_cons]
  have e : l.getD k nov = l[k] := by simp [List.getD, h]
  rw [e]
  by_cases h1 : l[k].1 = [42]
  · simp [h1]
  · have : (l[k].1 == [42]) = false := by simpa using h1
    simp [h1, this]
def No (n : List UInt8) (l : List T) (k : Nat) : Prop := ∀ j, j < k → (l.getD j nov).1 ≠ n
theorem no_zero (n : List UInt8) (l : List T) : No n l 0 := fun j hj => absurd hj (by omega)
theorem no_more {n : List UInt8} {l : List T} {k : Nat} (h : No n l k) (e : (l.getD k nov).1 ≠ n) : No n l (k + 1) := fun j hj => by
  rcases Nat.lt_or_ge j k with h' | h'
  · exact h j h'
  · have : j = k := by omega
    subst this; exact e
theorem fst1_hit {n : List UInt8} {l : List T} {k : Nat} (h : k < l.length) (hn : No n l k) (e : (l.getD k nov).1 = n) : fst1 n l = some (l.getD k nov).2 := by
  unfold fst1
  have hf : l.find? (fun f => f.1 == n) = some (l.getD k nov) := by
    rw [List.find?_eq_some_iff_append]
    refine ⟨by simpa using e, l.take k, l.drop (k + 1), ?_, ?_⟩
    · have e2 : l.getD k nov = l[k] := by simp [List.getD, h]
      rw [e2, ← List.drop_eq_getElem_cons h, List.take_append_drop]
    · intro a ha
      obtain ⟨j, hj, rfl⟩ := List.getElem_of_mem ha
      have hj' : j < k := by simp at hj; omega
      have := hn j hj'
      rw [show l.getD j nov = l[j]'(by omega) by simp [List.getD, show j < l.length by omega]] at this
      simp [List.getElem_take, this]
  rw [hf]; rfl
theorem fst1_miss {n : List UInt8} {l : List T} {k : Nat} (h : ¬ k < l.length) (hn : No n l k) : fst1 n l = none := by
  unfold fst1
  have : l.find? (fun f => f.1 == n) = none := by
    rw [List.find?_eq_none]
    intro a ha
    obtain ⟨j, hj, rfl⟩ := List.getElem_of_mem ha
    have := hn j (by omega)
    rw [show l.getD j nov = l[j] by simp [List.getD, hj]] at this
    simpa using this
  rw [this]; rfl
theorem qof_hit {n : List UInt8} {l : List T} {k : Nat} (h : k < l.length) (hn : No n l k) (e : (l.getD k nov).1 = n) : qof n l = (l.getD k nov).2 := by unfold qof; rw [fst1_hit h hn e]; rfl
theorem qof_miss {n : List UInt8} {l : List T} {k : Nat} (h : ¬ k < l.length) (hn : No n l k) : qof n l = star l := by unfold qof; rw [fst1_miss h hn]; rfl
theorem qof_star {n : List UInt8} {l : List T} {k m : Nat} (h : ¬ k < l.length) (hn : No n l k) (h2 : m < l.length) (hs : No [42] l m) (e : (l.getD m nov).1 = [42]) : qof n l = (l.getD m nov).2 := by
  rw [qof_miss h hn]; unfold star; rw [fst1_hit h2 hs e]; rfl
theorem qof_none {n : List UInt8} {l : List T} {k m : Nat} (h : ¬ k < l.length) (hn : No n l k) (h2 : ¬ m < l.length) (hs : No [42] l m) : qof n l = 0 := by
  rw [qof_miss h hn]; unfold star; rw [fst1_miss h2 hs]; rfl
theorem ret_int {a b : Int} (h : a = b) : Ending.returned (.int .i64 a) = .returned (.int .i64 b) := by rw [h]
def QofEnd (n : List UInt8) (l : List T) (w : World) (e : Ending) (w' : World) : Prop := e = .returned (.int .i64 (qof n l)) ∧ Below w.heap.size w w'
theorem shape {w : World} {B : Nat} {v : Value} {l : List T} (h : Holds w B v l) : ∃ a cap, v = .slice a l.length cap ∧ (0 < l.length → ∃ b off, a = some ⟨b, off, none⟩ ∧ b < B ∧ At w b off l) := by
  rcases h with ⟨rfl, a, cap, rfl⟩ | ⟨_, b, off, cap, rfl, hb, _, hc⟩
  · exact ⟨a, cap, rfl, fun h => absurd h (by simp)⟩
  · exact ⟨_, cap, rfl, fun _ => ⟨b, off, rfl, hb, hc⟩⟩

set_option maxHeartbeats 2000000 in
theorem impl_qof (v : Value) (B : Nat) (l : List T) (n : List UInt8) (w : World) (h : Holds w B v l) (hB : B ≤ w.heap.size) (hl : l.length ≤ 4194304) :
    Calls Tryz.prog 35 #[v, .string ⟨n.toArray⟩] w (QofEnd n l w) := by
  obtain ⟨a, cap, rfl, ha⟩ := shape h
  have HA := Lib.hid ha
  have HL : Hid (∀ wr : World, Below (w.heap.size + 1) (w.alloc (.cells #[.string ⟨n.toArray⟩, .string ⟨#[42]⟩] 9)) wr → (wr.cell? ⟨w.heap.size, 0, none⟩ = some (.string ⟨n.toArray⟩) ∧ wr.cell? ⟨w.heap.size, 1, none⟩ = some (.string ⟨#[42]⟩)) ∧ Below w.heap.size w wr) := Lib.hid (fun wr hb => by
    refine ⟨⟨?_, ?_⟩, ((Below.refl _ _).alloc (Nat.le_refl _) _).trans (hb.mono (by omega))⟩
    · rw [hb.cell (p := ⟨w.heap.size, 0, none⟩) (by simp), World.cell?_alloc_new]; rfl
    · rw [hb.cell (p := ⟨w.heap.size, 1, none⟩) (by simp), World.cell?_alloc_new]; rfl)
  clear ha h
  go_enter Tryz.func35, Tryz.ntmps35
  go_wp2
  go_loopw [6, 12, 18] (fun u i z wr => ∃ k : Nat, k ≤ 2 ∧ i = .int .i64 (k : Int) ∧ Hid (1 ≤ k → No n l l.length) ∧ Hid (2 ≤ k → No [42] l l.length) ∧ Below (w.heap.size + 1) (w.alloc (.cells #[.string ⟨n.toArray⟩, .string ⟨#[42]⟩] 9)) wr) (fun _ i _ _ => 2 - (intOf i).toNat)
  case atStart => exact ⟨0, by omega, rfl, Lib.hid (fun h => absurd h (by omega)), Lib.hid (fun h => absurd h (by omega)), Below.refl _ _⟩
  case round =>
    obtain ⟨k, hk, rfl, H1, H2, hb⟩ := hrel
    have HB := Lib.hid hb
    obtain ⟨⟨d0, d1⟩, hbw⟩ := HL.out _ hb
    have HW := Lib.hid hbw
    clear hb hbw
    by_cases hk2 : k < 2
    · rcases (show k = 0 ∨ k = 1 by omega) with rfl | rfl
      · clear H1 H2
        go_wp2
        go_loopw [18] (fun z wr => ∃ m : Nat, m ≤ l.length ∧ z = .int .i64 (m : Int) ∧ Hid (No n l m) ∧ Below (w.heap.size + 1) (w.alloc (.cells #[.string ⟨n.toArray⟩, .string ⟨#[42]⟩] 9)) wr) (fun z _ => l.length - (intOf z).toNat)
        case atStart => exact ⟨0, Nat.zero_le _, rfl, Lib.hid (no_zero n l), HB.out⟩
        case round =>
          clear HB HW d0 d1
          obtain ⟨m, hm, rfl, HN, hb⟩ := hrel
          have HB := Lib.hid hb
          obtain ⟨_, hbw⟩ := HL.out _ hb
          have HW := Lib.hid hbw
          by_cases hlt : m < l.length
          · obtain ⟨b, off, rfl, hbl, hc⟩ := HA.out (by omega)
            obtain ⟨c0, c1⟩ := at_cells (at_below hc hbw (Nat.lt_of_lt_of_le hbl hB)) hlt
            have HBA : Hid (∀ a : Array Value, Below (w.heap.size + 1) (w.alloc (.cells #[.string ⟨n.toArray⟩, .string ⟨#[42]⟩] 9)) (wr.alloc (.cells a 78))) := Lib.hid (fun a => HB.out.alloc (Nat.le_trans (by simp) HB.out.size) _)
            have HBW : Hid (∀ a : Array Value, Below w.heap.size w (wr.alloc (.cells a 78))) := Lib.hid (fun a => HW.out.alloc HW.out.size _)
            clear hb hbw hc
            by_cases e : (l.getD m nov).1 = n
            · have HE : Hid (qof n l = (l.getD m nov).2) := Lib.hid (qof_hit hlt HN.out e)
              rw [e] at c0
              generalize (l.getD m nov).2 = y at c1 HE
              clear e
              go_wp2
              go_ret
              exact ⟨ret_int HE.out.symm, HBW.out _⟩
            · have HM := Lib.hid (no_more HN.out e)
              generalize l.getD m nov = f at c0 c1 e
              obtain ⟨x, y⟩ := f
              dsimp only at c0 c1 e
              have hq := beq_false_of_ne e
              clear e
              go_wp2
              go_roundw
              case rel => exact ⟨m + 1, by omega, by go_num, HM, HBA.out _⟩
              case measure => first | (simp [intOf]; omega) | simp [intOf]
          · have HNN : Hid (No n l l.length) := Lib.hid (by have h := HN.out; rw [show m = l.length by omega] at h; exact h)
            clear hb hbw
            go_wp2
            go_roundw
            case rel => exact ⟨1, by omega, by go_num, Lib.hid (fun _ => HNN.out), Lib.hid (fun h => absurd h (by omega)), HB.out⟩
            case measure => simp [intOf]
      · have H1' := Lib.hid (H1.out (by omega))
        clear H1 H2
        go_wp2
        go_loopw [18] (fun z wr => ∃ m : Nat, m ≤ l.length ∧ z = .int .i64 (m : Int) ∧ Hid (No [42] l m) ∧ Below (w.heap.size + 1) (w.alloc (.cells #[.string ⟨n.toArray⟩, .string ⟨#[42]⟩] 9)) wr) (fun z _ => l.length - (intOf z).toNat)
        case atStart => exact ⟨0, Nat.zero_le _, rfl, Lib.hid (no_zero [42] l), HB.out⟩
        case round =>
          clear HB HW d0 d1
          obtain ⟨m, hm, rfl, HN, hb⟩ := hrel
          have HB := Lib.hid hb
          obtain ⟨_, hbw⟩ := HL.out _ hb
          have HW := Lib.hid hbw
          by_cases hlt : m < l.length
          · obtain ⟨b, off, rfl, hbl, hc⟩ := HA.out (by omega)
            obtain ⟨c0, c1⟩ := at_cells (at_below hc hbw (Nat.lt_of_lt_of_le hbl hB)) hlt
            have HBA : Hid (∀ a : Array Value, Below (w.heap.size + 1) (w.alloc (.cells #[.string ⟨n.toArray⟩, .string ⟨#[42]⟩] 9)) (wr.alloc (.cells a 78))) := Lib.hid (fun a => HB.out.alloc (Nat.le_trans (by simp) HB.out.size) _)
            have HBW : Hid (∀ a : Array Value, Below w.heap.size w (wr.alloc (.cells a 78))) := Lib.hid (fun a => HW.out.alloc HW.out.size _)
            clear hb hbw hc
            by_cases e : (l.getD m nov).1 = [42]
            · have HE : Hid (qof n l = (l.getD m nov).2) := Lib.hid (qof_star (k := l.length) (by omega) H1'.out hlt HN.out e)
              rw [e] at c0
              generalize (l.getD m nov).2 = y at c1 HE
              clear e
              go_wp2
              go_ret
              exact ⟨ret_int HE.out.symm, HBW.out _⟩
            · have HM := Lib.hid (no_more HN.out e)
              generalize l.getD m nov = f at c0 c1 e
              obtain ⟨x, y⟩ := f
              dsimp only at c0 c1 e
              have hq := beq_false_of_ne e
              clear e
              go_wp2
              go_roundw
              case rel => exact ⟨m + 1, by omega, by go_num, HM, HBA.out _⟩
              case measure => first | (simp [intOf]; omega) | simp [intOf]
          · have HNN : Hid (No [42] l l.length) := Lib.hid (by have h := HN.out; rw [show m = l.length by omega] at h; exact h)
            clear hb hbw
            go_wp2
            go_roundw
            case rel => exact ⟨2, by omega, by go_num, Lib.hid (fun _ => H1'.out), Lib.hid (fun _ => HNN.out), HB.out⟩
            case measure => simp [intOf]
    · obtain rfl : k = 2 := by omega
      have HE := Lib.hid (qof_none (n := n) (l := l) (k := l.length) (m := l.length) (by omega) (H1.out (by omega)) (by omega) (H2.out (by omega)))
      go_wp2
      go_ret
      exact ⟨ret_int HE.out.symm, HW.out⟩
end Go.Proofs.YtegaakgmfphcaaaGreatDoor.Qua

/-
  A REGION THAT DRAWS ITS ORDER, ALSO ONE WITH CALLS THAT MAKE MEMORY: one walk, in the order of the text, in whatever world of a class S that each call keeps.
-/
namespace Go.Proofs.YtegaakgmfphcaaaGreatDoor.RegS
open Go Go.RowKit
set_option linter.unusedVariables false
set_option maxRecDepth 1000000

/-- A world of the class. -/
structure In (S : World → Prop) where
  w : World
  h : S w
theorem region {P : Program} {id : Nat} {Q : Exit → Act → World → Prop} {a : Act} {w : World} {l : List Oper} (S : World → Prop) (hm : P.follows .mixedOrders = true) (hB : Region.lexB .any l.toArray = true) (hS : S w.drew)
    (h : wpQuiet P l.toArray (fun w' => ∃ u : In S, w' = u.w) (fun a' => ∀ w', (∃ u : In S, w' = u.w) → Q .normal a' w') l a) : (Code.region id l.toArray true).wp P Q a w :=
  wp_region_quiet (C := fun w' => ∃ u : In S, w' = u.w) hm hB ⟨⟨w.drew, hS⟩, rfl⟩ (by simpa using h)
theorem call {P : Program} {f : FuncId} {args : Array Value} {S : World → Prop} {u : In S} {v : Value} {E : Ending → World → Prop}
    (h : Calls P f args u.w E) (hE : ∀ e w', E e w' → e = .returned v ∧ S w') : Calls P f args u.w fun e w'' => e = .returned v ∧ ∃ m : In S, w'' = m.w :=
  h.mono fun e w' he => ⟨(hE e w' he).1, ⟨w', (hE e w' he).2⟩, rfl⟩
end Go.Proofs.YtegaakgmfphcaaaGreatDoor.RegS
