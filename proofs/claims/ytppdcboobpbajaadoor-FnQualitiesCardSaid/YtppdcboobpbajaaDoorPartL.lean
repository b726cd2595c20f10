/-
  CONTRACTS AND PLAIN FACTS, several texts in one; each says in its own words what it proves.
-/
import Derived.Test.YtppdcboobpbajaaDoorPartJ
import Derived.Test.YtppdcboobpbajaaDoorPartK
import Derived.Test.YtppdcboobpbajaaDoorPartA
import Derived.Handed
import Derived.HandedShaped
import Derived.Shelf.Vars
import Derived.Test.YtppdcboobpbajaaDoorPartD
set_option linter.unusedSimpArgs false
set_option linter.unusedVariables false

/-
  CONTRACTS of the program's readWeight and readParameter; nothing that was there before is changed.
-/
namespace Go.Proofs.YtppdcboobpbajaaDoor.Qua
open Go Go.RowKit
set_option linter.unusedVariables false
set_option maxRecDepth 1000000
set_option maxRecDepth 1000000

theorem ext_zeros (n : Nat) (h : n ≤ 3) : (⟨#[48, 48, 48]⟩ : ByteArray).extract n 3 = ⟨(List.replicate (3 - n) 48).toArray⟩ := by
  have : n = 0 ∨ n = 1 ∨ n = 2 ∨ n = 3 := by omega
  rcases this with rfl | rfl | rfl | rfl <;> rfl
theorem cut_pt (r : List UInt8) (W : World) (hl : r.length ≤ 4194304) : Calls Tryd.prog 44 #[.string ⟨r.toArray⟩, .string ⟨#[46]⟩] W fun e w' => e = .returned (.tuple #[.string ⟨(Tx.cutAt 46 r).1.toArray⟩, .string ⟨(Tx.cutAt 46 r).2.1.toArray⟩, .bool (Tx.cutAt 46 r).2.2]) ∧ Below W.heap.size W w' := Tx.cut_any ⟨r.toArray⟩ 46 W (by simp [ByteArray.size]; omega)
theorem wpair_at {o : Option Nat} {v : Value} {w w' : World} (h : wpair o = v) (hb : Below w.heap.size w w') : Ending.returned v = .returned (wpair o) ∧ Below w.heap.size w w' := ⟨by rw [h], hb⟩

set_option maxHeartbeats 4000000 in
theorem impl_weight (l : List UInt8) (w : World) (hl : l.length ≤ 1048576) (he : Par.Errs w) :
    Calls Tryd.prog 32 #[.string ⟨l.toArray⟩] w fun e w' => e = .returned (wpair (wgt l)) ∧ Below w.heap.size w w' := by
  have HC := Lib.hid (fun W => cut_pt l W (by omega))
  have HER := Lib.hid (fun W (hb : Below w.heap.size w W) => Par.errs_below he hb)
  have HWG : Hid (wgt l = wgt2 (Tx.cutAt 46 l).1 (Tx.cutAt 46 l).2.1) := Lib.hid rfl
  have hcl := Tx.cutAt_len 46 l
  generalize wgt l = g at *
  generalize Tx.cutAt 46 l = ct at *
  obtain ⟨a, d, b⟩ := ct
  simp only at HC HWG hcl
  have hbs := bsz d
  have hdl : d.length ≤ 1048576 := by omega
  clear he hl hcl
  by_cases ha : a = [48] ∨ a = [49]
  case neg =>
    have HF := Lib.hid (wpair_none (HWG.out.trans (wgt2_no (fun x => ha x.1))))
    have q1 : (a != [48]) = true := by rw [bne_iff_ne]; exact fun e => ha (Or.inl e)
    have q2 : (a != [49]) = true := by rw [bne_iff_ne]; exact fun e => ha (Or.inr e)
    have n1 : ¬ a = [48] := fun e => ha (Or.inl e)
    have n2 : ¬ a = [49] := fun e => ha (Or.inr e)
    clear HWG HER ha
    go_enter Tryd.func32, Tryd.ntmps32
    go_wp2_with (fail)
    go_at_call 44
    refine (HC.out _).mono ?_
    rintro e w1 ⟨rfl, b1⟩
    have HB := Lib.hid b1
    clear b1
    go_wp2
    go_ret2
    exact wpair_at HF.out HB.out
  by_cases h3 : (d.length : Int) ≤ 3
  case neg =>
    have h3' : 3 < (d.length : Int) := by omega
    have HF := Lib.hid (wpair_none (HWG.out.trans (wgt2_no (fun x => by have := x.2; omega))))
    clear HWG HER
    rcases ha with rfl | rfl
    all_goals
      go_enter Tryd.func32, Tryd.ntmps32
      go_wp2_with (fail)
      go_at_call 44
      refine (HC.out _).mono ?_
      rintro e w1 ⟨rfl, b1⟩
      have HB := Lib.hid b1
      clear b1
      go_wp2
      go_ret2
      exact wpair_at HF.out HB.out
  have h3' : ¬ 3 < (d.length : Int) := by omega
  have hdn : d.length ≤ 3 := by omega
  have HX := Lib.hid (ext_zeros d.length hdn)
  have HZL : Hid ((List.replicate (3 - d.length) (48 : UInt8)).length ≤ 3) := Lib.hid (by simp)
  have HA := Lib.hid ha
  have HAT : Hid (digs d = true → Lib.atoiAll (⟨(a ++ d ++ List.replicate (3 - d.length) 48).toArray⟩ : ByteArray).data.toList = .ok (wnum a d : Int)) := Lib.hid (fun h => atoi_w ha hdn h)
  have HAF : Hid (digs d = false → ∀ v, Lib.atoiAll (⟨(a ++ d ++ List.replicate (3 - d.length) 48).toArray⟩ : ByteArray).data.toList ≠ .ok v) := Lib.hid (fun h => atoi_no ha hdn h)
  have HSZ : Hid ((⟨(a ++ d ++ List.replicate (3 - d.length) 48).toArray⟩ : ByteArray).size ≤ 281474976710656) := Lib.hid (by rw [bsz]; rcases ha with rfl | rfl <;> simp <;> omega)
  have A1 := Tx.addtwo a d (by rcases ha with rfl | rfl <;> simp <;> omega)
  have A2 : ∀ W : World, (Op.stringOp .add ⟨(a ++ d).toArray⟩ ((⟨#[48, 48, 48]⟩ : ByteArray).extract d.length 3)).run Tryd.prog W = .ok (.string ⟨(a ++ d ++ List.replicate (3 - d.length) 48).toArray⟩) W := by
    rw [HX.out]; exact Tx.addtwo (a ++ d) _ (by rcases ha with rfl | rfl <;> simp <;> omega)
  generalize a ++ d ++ List.replicate (3 - d.length) 48 = al at *
  generalize hz1 : a ++ d = ad at *
  have hi3 : (d.length : Int).toNat = d.length := by omega
  have HW1 : Hid (digs d = true → wnum a d ≤ 1000 → g = some (wnum a d)) := Lib.hid (fun h1 h2 => HWG.out.trans (wgt2_yes ha hdn h1 h2))
  have HW2 : Hid (1000 < wnum a d → g = none) := Lib.hid (fun h2 => HWG.out.trans (wgt2_big h2))
  have HW3 : Hid (digs d = false → g = none) := Lib.hid (fun h2 => HWG.out.trans (wgt2_dig h2))
  generalize wnum a d = n at *
  clear HWG hz1 HX HZL
  cases hd : digs d with
  | false =>
    have HF := Lib.hid (wpair_none (HW3.out hd))
    have HAE := Lib.hid (fun W hb => Par.atoi_err ⟨al.toArray⟩ HSZ.out (HAF.out hd) W (HER.out W hb))
    clear HW1 HW2 HW3 HAT HAF hd HER
    rcases ha with rfl | rfl
    all_goals
      go_enter Tryd.func32, Tryd.ntmps32
      go_wp2_with (fail)
      go_at_call 44
      refine (HC.out _).mono ?_
      rintro e w1 ⟨rfl, b1⟩
      have HB := Lib.hid b1
      clear b1
      go_wp2_with (fail)
      go_at_call 45
      refine (HAE.out _ HB.out).mono ?_
      rintro e w2 ⟨⟨z, p, rfl⟩, b2⟩
      have HB2 := Lib.hid (Base.then_below HB.out b2)
      clear b2
      go_wp2
      go_ret2
      exact wpair_at HF.out HB2.out
  | true =>
    have HAE := Lib.hid (fun W => Par.atoi_ok ⟨al.toArray⟩ HSZ.out n (HAT.out hd) W)
    by_cases hn : n ≤ 1000
    · have HF := Lib.hid (wpair_some (HW1.out hd hn))
      have hn' : ¬ 1000 < (n : Int) := by omega
      clear HW1 HW2 HW3 HAT HAF hd HER
      rcases ha with rfl | rfl
      all_goals
        go_enter Tryd.func32, Tryd.ntmps32
        go_wp2_with (fail)
        go_at_call 44
        refine (HC.out _).mono ?_
        rintro e w1 ⟨rfl, b1⟩
        have HB := Lib.hid b1
        clear b1
        go_wp2_with (fail)
        go_at_call 45
        refine (HAE.out _).mono ?_
        rintro e w2 ⟨rfl, b2⟩
        have HB2 := Lib.hid (Base.then_below HB.out b2)
        clear b2
        go_wp2
        go_ret2
        exact wpair_at HF.out HB2.out
    · have HF := Lib.hid (wpair_none (HW2.out (by omega)))
      have hn' : 1000 < (n : Int) := by omega
      clear HW1 HW2 HW3 HAT HAF hd HER
      rcases ha with rfl | rfl
      all_goals
        go_enter Tryd.func32, Tryd.ntmps32
        go_wp2_with (fail)
        go_at_call 44
        refine (HC.out _).mono ?_
        rintro e w1 ⟨rfl, b1⟩
        have HB := Lib.hid b1
        clear b1
        go_wp2_with (fail)
        go_at_call 45
        refine (HAE.out _).mono ?_
        rintro e w2 ⟨rfl, b2⟩
        have HB2 := Lib.hid (Base.then_below HB.out b2)
        clear b2
        go_wp2
        go_ret2
        exact wpair_at HF.out HB2.out

set_option maxHeartbeats 4000000 in
theorem impl_param (l : List UInt8) (w : World) (hl : l.length ≤ 1048576) (he : Par.Errs w) :
    Calls Tryd.prog 24 #[.string ⟨l.toArray⟩] w fun e w' => e = .returned (wpair (qpar l)) ∧ Below w.heap.size w w' := by
  obtain ⟨⟨a, b, q⟩, hp⟩ : ∃ p, Tx.pairs l = p := ⟨_, rfl⟩
  have hla : a.length ≤ 1048576 ∧ b.length ≤ 1048576 := by
    have h1 := Tx.cutAt_len 61 l
    have h2 := Tx.trim_short (Tx.cutAt 61 l).1
    have h3 := Tx.trim_short (Tx.cutAt 61 l).2.1
    unfold Tx.pairs at hp
    cases hp
    omega
  have HP := Lib.hid (Dir.pair_i hp hl)
  have HL := Lib.hid (Dir.low_i a hla.1)
  have HWT := Lib.hid (fun W (hb : Below w.heap.size w W) => impl_weight b W hla.2 (Par.errs_below he hb))
  have HE : Hid (qpar l = if Tx.lower a = [113] then wgt b else none) := Lib.hid (by unfold qpar; rw [hp])
  generalize qpar l = g at *
  generalize Tx.lower a = la at *
  clear hp he
  by_cases h : la = [113]
  · subst h
    have HF : Hid (wpair g = wpair (wgt b)) := Lib.hid (by rw [HE.out, if_pos rfl])
    clear HE
    cases hg : wgt b with
    | none =>
      rw [hg] at HF HWT
      have hq : wpair none = .tuple #[.int .i64 0, .bool false] := rfl
      rw [hq] at HWT HF
      go_enter Tryd.func24, Tryd.ntmps24
      go_wp2_with (fail)
      go_at_call 31
      refine (HP.out _).mono ?_
      rintro e w1 ⟨rfl, b1⟩
      have HB := Lib.hid b1
      clear b1
      go_wp2_with (fail)
      go_at_call 25
      refine (HL.out _).mono ?_
      rintro e w2 ⟨rfl, b2⟩
      have HB := Lib.hid (Base.then_below HB.out b2)
      clear b2
      go_wp2_with (fail)
      go_at_call 32
      refine (HWT.out _ HB.out).mono ?_
      rintro e w3 ⟨rfl, b3⟩
      have HB := Lib.hid (Base.then_below HB.out b3)
      clear b3
      go_wp2
      go_ret2
      exact wpair_at HF.out HB.out
    | some n =>
      rw [hg] at HF HWT
      have hq : wpair (some n) = .tuple #[.int .i64 (n : Int), .bool true] := rfl
      rw [hq] at HWT HF
      go_enter Tryd.func24, Tryd.ntmps24
      go_wp2_with (fail)
      go_at_call 31
      refine (HP.out _).mono ?_
      rintro e w1 ⟨rfl, b1⟩
      have HB := Lib.hid b1
      clear b1
      go_wp2_with (fail)
      go_at_call 25
      refine (HL.out _).mono ?_
      rintro e w2 ⟨rfl, b2⟩
      have HB := Lib.hid (Base.then_below HB.out b2)
      clear b2
      go_wp2_with (fail)
      go_at_call 32
      refine (HWT.out _ HB.out).mono ?_
      rintro e w3 ⟨rfl, b3⟩
      have HB := Lib.hid (Base.then_below HB.out b3)
      clear b3
      go_wp2
      go_ret2
      exact wpair_at HF.out HB.out
  · have HF := Lib.hid (wpair_none (HE.out.trans (if_neg h)))
    have hq : (la == [113]) = false := beq_eq_false_iff_ne.2 h
    have hq2 : (!la == [113]) = true := by rw [hq]; rfl
    clear HE
    go_enter Tryd.func24, Tryd.ntmps24
    go_wp2_with (fail)
    go_at_call 31
    refine (HP.out _).mono ?_
    rintro e w1 ⟨rfl, b1⟩
    have HB := Lib.hid b1
    clear b1
    go_wp2_with (fail)
    go_at_call 25
    refine (HL.out _).mono ?_
    rintro e w2 ⟨rfl, b2⟩
    have HB := Lib.hid (Base.then_below HB.out b2)
    clear b2
    go_wp2
    go_ret2
    exact wpair_at HF.out HB.out
end Go.Proofs.YtppdcboobpbajaaDoor.Qua

/-
  A WRAP: laid variables beside the world's shape. And: the library's bytealg.MaxLen holds some integer, at every later world.
-/
namespace Go.Proofs.YtppdcboobpbajaaDoor.Sh
open Go Go.RowKit
set_option linter.unusedVariables false
set_option maxRecDepth 1000000
variable {H : Type} {enc : TypeId × Value → H}

theorem and_shaped {a : Assume} {C : Checked} {os : Os} {f : FuncId} {fn : Func} {s : ChangeSpec} {conds : List PathCond} {apart fresh handsOn again : Bool} {X : World → Array Value → Prop}
    (hX : ∀ (w w' : World) (args : Array Value), w.heap = w'.heap → X w args → X w' args)
    (own : ownKnob C.prog.godebug = none) (started : os.Started) (noInit : C.prog.inits.idxOf? f = none) (hfn : C.prog.funcs[f]? = some fn)
    (witness : ∃ (w : World) (tape : Tape) (i : Input), w.os = os ∧ (w.forCall tape i).Shaped C.prog ∧ i.vars = [] ∧ Input.okWide C.prog (w.forCall tape i) .any w.heap.size f i ∧
      ((s.pre enc C.prog fn conds apart (w.forCall tape i).memory i.args ∧ X (w.forCall tape i).memory i.args) ∧ sizedMet enc C.prog fn (OpenSpec.ofChange s) apart (w.forCall tape i).memory i.args) ∧ a.holds C.prog (lone (Frame.enter C.prog f i.args .normal) [] (w.forCall tape i)))
    (contract : ∀ (W : World) (base : Nat) (args : Array Value) (ds gs : List (DataW H)) (before : List MemPlace),
      (∀ (j : Nat) t v, fn.params[j]? = some t → args[j]? = some v → Value.okWide C.prog W .any base t v) →
      DataW.Whole enc C.prog fn.params.toList s.vars apart W args.toList ds gs before →
      W.ShapedOpen C.prog → X W args →
      Calls C.prog f args W fun e W' => ∃ v, e = .returned v ∧ s.post enc C.prog fn apart fresh handsOn again W args v W') :
    ReturnsInHanded a C os f .any (fun w args => (s.pre enc C.prog fn conds apart w args ∧ X w args) ∧ sizedMet enc C.prog fn (OpenSpec.ofChange s) apart w args) (s.post enc C.prog fn apart fresh handsOn again) := by
  refine returnsInHanded_of_calls own started noInit witness ?_
  intro w tape i _ hsh _ hok hpre hholds
  obtain ⟨_, _, _, fn', hfn', _, _, _, _, hval⟩ := hok
  have e : fn' = fn := Option.some.inj (hfn'.symm.trans hfn)
  subst e
  obtain ⟨⟨⟨ds, gs, before, hw, hc⟩, hx⟩, hz⟩ := hpre
  have hw' := DataW.Whole.of_heap (w' := w.forCall tape i) (by rfl) hw
  refine (contract (w.forCall tape i) w.heap.size i.args ds gs before hval hw' hsh (hX _ _ _ (by rfl) hx)).mono fun e W' ⟨v, he, hp⟩ => ?_
  subst he
  exact ChangeSpec.post_blind hp

def MxL (w : World) : Prop := 0 < w.heap.size ∧ ∃ m, w.cell? ⟨0, 0, none⟩ = some (.int .i64 m)
theorem mxl_below {w w' : World} (h : MxL w) (hb : Below w.heap.size w w') : MxL w' := by
  obtain ⟨hg, m, hc⟩ := h
  exact ⟨Nat.lt_of_lt_of_le hg hb.size, m, (hb.cell (p := ⟨0, 0, none⟩) hg).trans hc⟩
theorem mxl_of {W : World} (h : W.ShapedOpen Tryd.prog) : MxL W := by
  obtain ⟨m, hc⟩ := Go.Proofs.cell_of_shapedOpen_int (g := 0) (zero := #[.int .i64 0]) (t := 3) h (of_decide_eq_true (by kernel_rfl)) (by kernel_rfl) rfl (by kernel_rfl) (by kernel_rfl) Tryd.underlying3
  exact ⟨World.block_lt_of_cell? _ _ hc, m, hc⟩
end Go.Proofs.YtppdcboobpbajaaDoor.Sh

/-
  PLAIN FACTS: blocks that a call has just laid, one, two or three, read on as they were laid behind whatever only adds.
-/
namespace Go.Proofs.YtppdcboobpbajaaDoor.Kept
open Go Go.RowKit
set_option linter.unusedVariables false
set_option maxRecDepth 1000000

theorem below_in {w w1 : World} {o : Obj} (h : Below (w.alloc o).heap.size (w.alloc o) w1) : Below w.heap.size w w1 := ((Below.refl _ _).alloc (Nat.le_refl _) _).trans (h.mono (by simp))
theorem one {w w1 : World} {T : TypeId} {a : Array Value} (hb : Below (w.alloc (.cells a T)).heap.size (w.alloc (.cells a T)) w1) :
    (∀ j u, a[j]? = some u → w1.cell? ⟨w.heap.size, j, none⟩ = some u) ∧ ∀ j, w1.frozen? ⟨w.heap.size, j, none⟩ = false := by
  refine ⟨fun j u h => ?_, fun j => ?_⟩
  · rw [hb.cell (p := ⟨w.heap.size, j, none⟩) (by simp), World.cell?_alloc_new]; exact h
  · rw [hb.frozen (p := ⟨w.heap.size, j, none⟩) (by simp)]; simp [go_sem]
theorem two {w w1 : World} {o : Obj} {T : TypeId} {a : Array Value} (hb : Below ((w.alloc o).alloc (.cells a T)).heap.size ((w.alloc o).alloc (.cells a T)) w1) :
    (∀ j u, a[j]? = some u → w1.cell? ⟨w.heap.size + 1, j, none⟩ = some u) ∧ ∀ j, w1.frozen? ⟨w.heap.size + 1, j, none⟩ = false := by
  have h := one hb
  rw [show (w.alloc o).heap.size = w.heap.size + 1 by simp] at h
  exact h
theorem three {w w1 : World} {o o2 : Obj} {T : TypeId} {a : Array Value} (hb : Below (((w.alloc o).alloc o2).alloc (.cells a T)).heap.size (((w.alloc o).alloc o2).alloc (.cells a T)) w1) :
    (∀ j u, a[j]? = some u → w1.cell? ⟨w.heap.size + 1 + 1, j, none⟩ = some u) ∧ ∀ j, w1.frozen? ⟨w.heap.size + 1 + 1, j, none⟩ = false := by
  have h := one hb
  rw [show ((w.alloc o).alloc o2).heap.size = w.heap.size + 1 + 1 by simp] at h
  exact h
end Go.Proofs.YtppdcboobpbajaaDoor.Kept

/-
  PLAIN FACTS: a block of cells that the call has laid, read behind what only adds, behind a write into it, and behind a write elsewhere.
-/
namespace Go.Proofs.YtppdcboobpbajaaDoor.Kept
open Go Go.RowKit
set_option linter.unusedVariables false
set_option maxRecDepth 1000000

/-- The block g holds these values, and may be written. -/
structure Box (W : World) (g : Nat) (xs : List Value) : Prop where
  cell : ∀ j u, xs[j]? = some u → W.cell? ⟨g, j, none⟩ = some u
  frz : ∀ j, W.frozen? ⟨g, j, none⟩ = false
  lt : g < W.heap.size
theorem Box.new {w : World} {T : TypeId} {a : Array Value} : Box (w.alloc (.cells a T)) w.heap.size a.toList :=
  ⟨fun j u h => by rw [World.cell?_alloc_new]; simpa using h, fun j => by simp [go_sem], by simp⟩
theorem Box.below {W W' : World} {g : Nat} {xs : List Value} (h : Box W g xs) (hb : Below W.heap.size W W') : Box W' g xs :=
  ⟨fun j u e => (hb.cell (p := ⟨g, j, none⟩) h.lt).trans (h.cell j u e), fun j => (hb.frozen (p := ⟨g, j, none⟩) h.lt).trans (h.frz j), Nat.lt_of_lt_of_le h.lt hb.size⟩
theorem Box.alloc {W : World} {g : Nat} {xs : List Value} (h : Box W g xs) (o : Obj) : Box (W.alloc o) g xs := h.below ((Below.refl _ _).alloc (Nat.le_refl _) _)
theorem Box.same {W : World} {g k : Nat} {xs : List Value} (h : Box W g xs) (hk : k < xs.length) (v : Value) : Box (W.setCell ⟨g, k, none⟩ v) g (xs.set k v) :=
  ⟨fun j u e => by
    by_cases hj : j = k
    · subst hj
      obtain ⟨u0, hu0⟩ : ∃ u0, xs[j]? = some u0 := ⟨xs[j], by simp [hk]⟩
      rw [World.cell?_setCell_same _ _ _ (h.cell j u0 hu0)]
      simpa [hk] using e
    · rw [World.cell?_setCell_other _ _ _ _ (fun e => hj (by cases e; rfl))]
      exact h.cell j u (by rw [List.getElem?_set_ne (fun e => hj e.symm)] at e; exact e), fun j => by rw [World.frozen?_setCell]; exact h.frz j, by rw [World.size_setCell]; exact h.lt⟩
theorem Box.other {W : World} {g g' k : Nat} {xs : List Value} (h : Box W g xs) (hne : g' ≠ g) (v : Value) : Box (W.setCell ⟨g', k, none⟩ v) g xs :=
  ⟨fun j u e => by rw [World.cell?_setCell_other _ _ _ _ (fun e => hne (by cases e; rfl))]; exact h.cell j u e, fun j => by rw [World.frozen?_setCell]; exact h.frz j, by rw [World.size_setCell]; exact h.lt⟩
end Go.Proofs.YtppdcboobpbajaaDoor.Kept
