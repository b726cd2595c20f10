/-
  CONTRACTS AND PLAIN FACTS, several texts in one; each says in its own words what it proves.
-/
import Derived.Test.YtobhdfkhfmpdlaaGreatDoorPartC
import Derived.Deep.AppendLies
import Derived.Deep.RegionHeldLaw
import Derived.RegionTactic
import Derived.Deep.RegionWith
import Derived.Test.YtobhdfkhfmpdlaaGreatDoorPartB
import Derived.Test.YtobhdfkhfmpdlaaGreatDoorPartA
import Derived.Test.YtobhdfkhfmpdlaaGreatDoorRows
import Derived.WalkKit
import Derived.ProofKit
import Derived.Lib.Hide
import Derived.OpenShut
import Derived.Below
import Derived.Lib.ItoaNum
set_option linter.unusedSimpArgs false
set_option linter.unusedVariables false

/-
  CONTRACT of the model's draw l1Bent: it answers some text that is at most one byte longer than the one given, writes into the cursor alone, and leaves it a cursor over the same bytes.
-/
namespace Go.Proofs.YtobhdfkhfmpdlaaGreatDoor.Cur
open Go Go.RowKit
set_option linter.unusedVariables false
set_option maxRecDepth 1000000

def ucs (c : UInt8) : List Value := [Bys.bvl c]
theorem ucs_len : ∀ a, (ucs a).length = 1 := fun _ => rfl
theorem ucs_one : ∀ a, ∀ u ∈ ucs a, u.oneCell' = true := fun a => Bys.bvl_one a
theorem flat_ucs (l : List UInt8) : Rec.flat ucs l = Bys.bvs l := by
  induction l with
  | nil => rfl
  | cons c r ih =>
    show ucs c ++ Rec.flat ucs r = _
    rw [ih]; rfl
theorem uc_at {w : World} {b off : Nat} {l : List UInt8} (h : ∀ j, j < l.length → w.cell? ⟨b, off + j, none⟩ = some (Bys.bvl (l.getD j 0))) : Rec.At 1 ucs 0 w b off l := fun j hj i u hu => by
  unfold ucs at hu
  match i, hu with
  | 0, hu => simp at hu; subst hu; rw [Nat.mul_one, Nat.add_zero]; exact h j hj
theorem u_nil {w : World} {B N : Nat} {T : TypeId} (hB : B ≤ w.heap.size) (hN : w.heap.size = N) : (w.alloc (.cells #[] T)).ownsRow B T 1 (.slice (some ⟨N, 0, none⟩) 0 0) ([] : List UInt8).length (Rec.flat ucs []) := by
  subst hN; exact Rec.own_mono (Rec.own_lit_nil (cs := ucs) _ _) hB
theorem u_ba {a w : World} (h : Below a.heap.size a w) (o : Obj) : Below a.heap.size a (w.alloc o) := h.alloc h.size o
theorem u_bg {a w w' : World} {B n : Nat} {T : TypeId} {v : Value} {xs : List Value} (h : Below a.heap.size a w) (hown : w.ownsRow B T 1 v n xs) (hB : a.heap.size ≤ B) (hg : w.grownBy w' v.ownBlock) : Below a.heap.size a w' :=
  h.grown hg h.size (fun k e => Nat.le_trans hB (hown.lt k e).1)
theorem u_pre {w : World} {g cap m : Nat} {l : List UInt8} (h : Room w g cap l) (hm : m ≤ l.length) : Rec.Holds 1 ucs 0 w w.heap.size (.slice (some ⟨g, 0, none⟩) m cap) (l.take m) := by
  by_cases h0 : m = 0
  · subst h0; exact Or.inl ⟨by simp, _, _, rfl⟩
  · have hl : (l.take m).length = m := by rw [List.length_take]; omega
    refine Or.inr ⟨by omega, g, 0, cap, by rw [hl], h.1.1, by have := h.2.1; omega, uc_at (fun j hj => ?_)⟩
    rw [Nat.zero_add, (h.1.2 j (by omega)).1]; rw [hl] at hj; congr 2; simp [List.getD, hj]
theorem u_suf {w : World} {g cap m : Nat} {l : List UInt8} (h : Room w g cap l) (hm : m ≤ l.length) : Rec.Holds 1 ucs 0 w w.heap.size (.slice (if cap = m then some ⟨g, 0, none⟩ else some ⟨g, m, none⟩) (l.length - m) (cap - m)) (l.drop m) := by
  have hc := h.2.1
  by_cases e : cap = m
  · rw [if_pos e, show l.length - m = 0 by omega]; exact Or.inl ⟨List.drop_eq_nil_of_le (by omega), _, _, rfl⟩
  · rw [if_neg e]
    by_cases h0 : m = l.length
    · subst h0; rw [Nat.sub_self]; exact Or.inl ⟨by simp, _, _, rfl⟩
    · have hl : (l.drop m).length = l.length - m := by rw [List.length_drop]
      refine Or.inr ⟨by omega, g, m, cap - m, by rw [hl], h.1.1, by omega, uc_at (fun j hj => ?_)⟩
      rw [(h.1.2 (m + j) (by omega)).1]; congr 2; simp [List.getD, List.getElem?_drop]
theorem bat_take {w : World} {g : Nat} {l : List UInt8} (k : Nat) (h : Bys.BAt w g l) : Bys.BAt w g (l.take k) := ⟨h.1, fun j hj => by
  rw [List.length_take] at hj
  refine ⟨?_, (h.2 j (by omega)).2⟩
  rw [(h.2 j (by omega)).1]; congr 2; simp [List.getD, show j < k by omega]⟩
theorem cur_same {w w' : World} {c : Nat} {bv : Value} (h : CurAt w c bv) (hb : w'.heap[c]? = w.heap[c]?) : CurAt w' c bv := by
  obtain ⟨i, k, h0, hh⟩ := h
  exact ⟨i, k, h0, by rw [hb]; exact hh⟩
theorem gb_below {a w w' : World} {c : Nat} (h : a.grownBy w (some c)) (hb : Below a.heap.size w w') : a.grownBy w' (some c) :=
  ⟨hb.os.trans h.os, hb.tape.trans h.tape, hb.output.trans h.output, Nat.le_trans h.size hb.size, fun i hi hn => (hb.block i hi).trans (h.block i hi hn)⟩
theorem append_run {P : Program} {w w' : World} {ops : Array Oper} {rest : List Oper} {o : Oper} {a : Act} {Q : Exit → Act → World → Prop} (hgd : o.guard = none) (s x : Operand) (t : TypeId)
    (ho : o.op = .call { callee := .builtin .append, args := #[s, x], argTypes := #[t, t] }) {v1 v2 v' : Value} (hs : a.eval s = v1) (hx : a.eval x = v2)
    (hr : (Builtin.append_ #[t, t] o.type #[v1, v2]).run P w = .ok v' w') (h : wpList P ops Q rest (a.put o.dst v') w') : wpList P ops Q (o :: rest) a w := by
  refine wpList_plain hgd fun K' hK' => ?_
  unfold Oper.wp
  simp [execOp, ho, resolve, invoke, builtin, hs, hx, hr, Result.andThen]
  exact hK' _ _ h

set_option maxHeartbeats 4000000 in
theorem bent_any (c B : Nat) (bv : Value) (s : List UInt8) (w : World) (hcur : CurAt w c bv) (hby : Bytes w B bv) (hB : B ≤ c) (hs : s.length ≤ 1000000) :
    Calls Tryz.prog 19 #[.pointer (some ⟨c, 0, none⟩), .string ⟨s.toArray⟩] w (DrawnS (fun x => x.length ≤ s.length + 1) c bv w) := by
  obtain ⟨i0, hi, hz0, hz1, hz2⟩ := info_parts Bys.info_byte
  obtain ⟨cap, w1, hcv, hr, hb1⟩ := to_room ⟨s.toArray⟩ w
  have hcl := cur_lt hcur
  rw [show (⟨s.toArray⟩ : ByteArray).size = s.length by simp [ByteArray.size]] at hcv
  have hc1 := cur_same hcur (hb1.block c hcl)
  have hy1 := bytes_below hby (hb1.mono (by omega : B ≤ w.heap.size))
  have hg1 : w.grownBy w1 (some c) := gb_below (World.grownBy.refl _ _) hb1
  have HR1 : Hid (Room w1 w.heap.size cap s) := Lib.hid hr
  have HB1 := Lib.hid hb1
  clear hr hcur hby hb1
  go_enter Tryz.func19, Tryz.ntmps19
  go_wp2_with (fail)
  go_at_call 37
  refine (below_any c B bv 7 _ hc1 hy1 hB (by omega)).mono ?_
  rintro e w2 ⟨n, hn, rfl, hc2, hg2⟩
  have hy2 := bytes_kept hy1 hg2 hB
  have HR2 := Lib.hid (room_gb HR1.out hg2 (by omega))
  have HG2 := Lib.hid (gb_trans hg1 hg2)
  obtain ⟨hn0, hn1⟩ := hn
  have hn7 : n < 7 := by omega
  clear hn1 hc1 hy1 hg1 hg2 hcv HR1
  have hbk0 := Bys.back w2 w.heap.size cap s HR2.out.1
  by_cases e0 : n = 0
  · subst e0
    by_cases h0 : 0 < s.length
    · have hsi : (0 : Int) < (s.length : Int) := by omega
      clear hbk0
      go_wp2_with (fail)
      go_at_call 37
      refine (below_any c B bv (s.length : Int) _ hc2 hy2 hB (by omega)).mono ?_
      rintro e w3 ⟨x, hx, rfl, hc3, hg3⟩
      obtain ⟨j, rfl, hj⟩ : ∃ j : Nat, x = (j : Int) ∧ j < s.length := ⟨x.toNat, by have := hx.1; omega, by have := hx.1; have := hx.2; omega⟩
      have hy3 := bytes_kept hy2 hg3 hB
      clear hx
      go_wp2_with (fail)
      go_at_call 37
      refine (below_any c B bv 256 _ hc3 hy3 hB (by omega)).mono ?_
      rintro e w4 ⟨y, hy, rfl, hc4, hg4⟩
      obtain ⟨u, rfl⟩ : ∃ u : UInt8, y = (u.toNat : Int) := ⟨UInt8.ofNat y.toNat, by have := hy.1; have := hy.2; simp [UInt8.toNat_ofNat']; omega⟩
      have hu0 : (0 : Int) ≤ (u.toNat : Int) := by omega
      have hu1 : (u.toNat : Int) ≤ 255 := by have := u.toNat_lt; omega
      have hg24 := gb_trans hg3 hg4
      have hR4 := room_gb HR2.out hg24 (by omega)
      have hcell := (hR4.1.2 j hj).1
      have hfz := (hR4.1.2 j hj).2
      have hji : (j : Int) < (s.length : Int) := by omega
      have hbk := Bys.back (w4.setCell ⟨w.heap.size, j, none⟩ (Bys.bvl u)) w.heap.size cap (s.set j u) (set_room u hR4 hj)
      rw [List.length_set] at hbk
      have HE := Lib.hid (And.intro (show (s.set j u).length ≤ s.length + 1 by rw [List.length_set]; omega) (And.intro (cur_same (w' := w4.setCell ⟨w.heap.size, j, none⟩ (Bys.bvl u)) hc4 (Below.heap_setCell _ _ _ _ (by show c ≠ w.heap.size; omega))) (gb_below (gb_trans HG2.out hg24) (show Below w.heap.size w4 (w4.setCell ⟨w.heap.size, j, none⟩ (Bys.bvl u)) from Bys.below_set _ (Below.refl _ _) (Nat.le_refl _)))))
      unfold Bys.bvl at hbk hcell HE
      clear hy hc2 hc3 hc4 hy2 hy3 hg3 hg4 hg24 hR4
      go_wp2
      go_ret
      exact ⟨_, HE.out.1, rfl, HE.out.2.1, HE.out.2.2⟩
    · have hsi : ¬ (0 : Int) < (s.length : Int) := by omega
      have HC := Lib.hid hc2
      clear hc2 hy2
      go_wp2
      go_ret
      exact ⟨s, by omega, rfl, HC.out, HG2.out⟩
  by_cases e1 : n = 1
  · subst e1
    clear hbk0
    go_wp2_with (fail)
    go_at_call 37
    refine (below_any c B bv ((s.length : Int) + 1) _ hc2 hy2 hB (by omega)).mono ?_
    rintro e w3 ⟨x, hx, rfl, hc3, hg3⟩
    obtain ⟨j, rfl, hj⟩ : ∃ j : Nat, x = (j : Int) ∧ j ≤ s.length := ⟨x.toNat, by have := hx.1; omega, by have := hx.1; have := hx.2; omega⟩
    have hR3 := room_gb HR2.out hg3 (by omega)
    have hjc : j ≤ cap := Nat.le_trans hj hR3.2.1
    have hjci : (j : Int) ≤ (cap : Int) := by omega
    have hj0 : (0 : Int) ≤ (j : Int) := by omega
    have hbk := Bys.back w3 w.heap.size cap (s.take j) (bat_take j hR3.1)
    rw [List.length_take, Nat.min_eq_left hj] at hbk
    have HE := Lib.hid (And.intro (show (s.take j).length ≤ s.length + 1 by rw [List.length_take]; omega) (And.intro hc3 (gb_trans HG2.out hg3)))
    clear hx hc2 hc3 hy2 hg3 hR3
    go_wp2
    go_ret
    exact ⟨_, HE.out.1, rfl, HE.out.2.1, HE.out.2.2⟩
  by_cases e2 : n = 2
  · subst e2
    clear hbk0
    have H := int_lits c B bv [0, 32, 44, 34, 255] 5 rfl w2 hc2 hy2 hB (by decide) (by decide) 3
    go_wp2_with (fail)
    go_at_call 27
    refine H.mono ?_
    rintro e w3 ⟨y, hy, rfl, hc3, hg3⟩
    have hyb : 0 ≤ y ∧ y ≤ 255 := by simp at hy; omega
    obtain ⟨u, rfl⟩ : ∃ u : UInt8, y = (u.toNat : Int) := ⟨UInt8.ofNat y.toNat, by have := hyb.1; have := hyb.2; simp [UInt8.toNat_ofNat']; omega⟩
    have hu0 : (0 : Int) ≤ (u.toNat : Int) := by omega
    have hu1 : (u.toNat : Int) ≤ 255 := hyb.2
    have hR3 := room_gb HR2.out hg3 (by omega)
    obtain ⟨g', cap', w5, hap, hat, hbl⟩ := push_room u hR3 (by omega)
    have hbk := Bys.back w5 g' cap' (s ++ [u]) hat
    rw [List.length_append, show [u].length = 1 from rfl] at hbk
    have HL : Hid ((s ++ [u]).length ≤ s.length + 1) := Lib.hid (by rw [List.length_append]; simp)
    have hb5 := hbl w.heap.size w3 (Below.refl _ _) (Nat.le_refl _) (gb_trans HG2.out hg3).size
    have hb6 := hbl (w.heap.size) w3 (Below.refl _ _) (Nat.le_refl _) (gb_trans HG2.out hg3).size
    have HE := Lib.hid (And.intro (cur_same hc3 (hb6.block c hcl)) (gb_below (gb_trans HG2.out hg3) hb5))
    unfold Bys.bvl at hap
    generalize s ++ [u] = r at hbk HL
    clear H hy hyb hc2 hc3 hy2 hg3 hR3 hat hbl hb5 hb6
    go_wp2_with (at_builtin; refine append_run rfl (.tmp 36) (.tmp 41) _ rfl rfl rfl hap ?_)
    go_ret
    exact ⟨_, HL.out, rfl, HE.out.1, HE.out.2⟩
  by_cases e3 : n = 3
  · subst e3
    by_cases h0 : 0 < s.length
    · have hsi : (0 : Int) < (s.length : Int) := by omega
      clear hbk0
      go_wp2_with (fail)
      go_at_call 37
      refine (below_any c B bv (s.length : Int) _ hc2 hy2 hB (by omega)).mono ?_
      rintro e w3 ⟨x, hx, rfl, hc3, hg3⟩
      obtain ⟨j, rfl, hj⟩ : ∃ j : Nat, x = (j : Int) ∧ j < s.length := ⟨x.toNat, by have := hx.1; omega, by have := hx.1; have := hx.2; omega⟩
      have hR3 := room_gb HR2.out hg3 (by omega)
      have hjc : j ≤ cap := Nat.le_trans (Nat.le_of_lt hj) hR3.2.1
      have hjc1 : j + 1 ≤ cap := Nat.le_trans hj hR3.2.1
      have HPRE : Hid (∀ u, Below w3.heap.size w3 u → Rec.Holds 1 ucs 0 u w3.heap.size (.slice (some ⟨w.heap.size, 0, none⟩) j cap) (s.take j)) := Lib.hid (fun u hu => Rec.holds_below (u_pre hR3 (Nat.le_of_lt hj)) hu)
      have HSUF : Hid (∀ u, Below w3.heap.size w3 u → Rec.Holds 1 ucs 0 u w3.heap.size (.slice (if cap = j + 1 then some ⟨w.heap.size, 0, none⟩ else some ⟨w.heap.size, j + 1, none⟩) (s.length - (j + 1)) (cap - (j + 1))) (s.drop (j + 1))) := Lib.hid (fun u hu => Rec.holds_below (u_suf hR3 hj) hu)
      have HBD : Hid (Below w3.heap.size w3 w3.drew) := Lib.hid (Below.refl _ _).drew
      have HSD : Hid (Hid (Below w3.heap.size w3 w3.drew)) := Lib.hid HBD
      have SA : Hid (∀ (u : World) (o : Obj), Hid (Below w3.heap.size w3 u) → Hid (Below w3.heap.size w3 (u.alloc o))) := Lib.hid (fun u o hb => Lib.hid (u_ba hb.out o))
      have HBA : Hid (Below w3.heap.size w3 (w3.alloc (.cells #[] 5)).drew) := Lib.hid (u_ba (Below.refl _ _) _).drew
      have HO3 : Hid ((w3.alloc (.cells #[] 5)).drew.ownsRow w3.heap.size 5 1 (.slice (some ⟨w3.heap.size, 0, none⟩) 0 0) ([] : List UInt8).length (Rec.flat ucs [])) := Lib.hid (u_nil (w := w3) (Nat.le_refl _) rfl)
      have HC3 := Lib.hid hc3
      have HG3 := Lib.hid (gb_trans HG2.out hg3)
      have hj0 : (0 : Int) ≤ (j : Int) := by omega
      have hjt : ((j : Int)).toNat = j := by omega
      have hji : (j : Int) < (s.length : Int) := by omega
      have hjci : (j : Int) ≤ (cap : Int) := by omega
      have hjs : (j : Int) + 1 ≤ (s.length : Int) := by omega
      have hj10 : (0 : Int) ≤ (j : Int) + 1 := by omega
      have hj11 : ((j : Int) + 1).toNat = j + 1 := by omega
      have hj12 : ¬ (j : Int) + 1 < 0 := by omega
      have hj13 : ¬ (s.length : Int) < (j : Int) + 1 := by omega
      have hw : IntKind.i64.wrap ((j : Int) + 1) = (j : Int) + 1 := IntWalk.i64_in _ (by omega)
      have hjc2 : (j : Int) + 1 ≤ (cap : Int) := by omega
      have hslc : s.length ≤ cap := HR2.out.2.1
      have hslci : (s.length : Int) ≤ (cap : Int) := by omega
      clear hx hc2 hc3 hy2 hg3 hR3
      go_wp2
      go_region_held_law (fun u => Hid (Below w3.heap.size w3 u))
        (first | exact HSD.out | exact Lib.hid (u_ba HBD.out _) | exact HB5 | exact HB3 | go_keep)
        (first
          | (refine Rec.step_holds ucs_len ucs_one (by rfl) (.tmp 52) (.tmp 55) 22 5 (by rfl) Tryz.underlying22 hi hz0 hz1 hz2 (by rfl) (by decide) (by rfl) (by rfl) HO3.out (HPRE.out _ HBA.out) (by simp only [List.length_take, List.length_nil, List.length_append, List.length_cons, List.length_drop]; unfold maxLen; omega) (by simp only [List.length_take, List.length_nil, List.length_append, List.length_cons, List.length_drop]; omega) HBA.out.size ?_; intro v1 w4 hown1 hgrow1; have HB3 : Hid (Below w3.heap.size w3 w4) := Lib.hid (u_bg HBA.out HO3.out (Nat.le_refl _) hgrow1))
          | (refine Rec.step_holds ucs_len ucs_one (by rfl) (.tmp 56) (.tmp 60) 22 5 (by rfl) Tryz.underlying22 hi hz0 hz1 hz2 (by rfl) (by decide) (by rfl) (by rfl) hown1 (HSUF.out _ HB3.out) (by simp only [List.length_take, List.length_nil, List.length_append, List.length_cons, List.length_drop]; unfold maxLen; omega) (by simp only [List.length_take, List.length_nil, List.length_append, List.length_cons, List.length_drop]; omega) HB3.out.size ?_; intro v2 w5 hown2 hgrow2; have HB5 : Hid (Below w3.heap.size w3 w5) := Lib.hid (u_bg HB3.out hown1 (Nat.le_refl _) hgrow2))
          | fail)
      all_goals (
        rw [flat_ucs] at hown2
        have hbk := Bys.own_str hown2
        have HL : Hid (([] ++ s.take j ++ s.drop (j + 1)).length ≤ s.length + 1) := Lib.hid (by simp only [List.length_take, List.length_nil, List.length_append, List.length_drop]; omega)
        have HE := Lib.hid (And.intro (cur_same HC3.out (HB5.out.block c (cur_lt HC3.out))) (gb_below HG3.out (HB5.out.mono HG3.out.size)))
        generalize [] ++ s.take j ++ s.drop (j + 1) = r at hbk HL
        clear hown1 hgrow1 HB3 hown2 hgrow2 HB5 HPRE HSUF
        go_wp2
        all_goals go_ret
        all_goals exact ⟨_, HL.out, rfl, HE.out.1, HE.out.2⟩)
    · have hsi : ¬ (0 : Int) < (s.length : Int) := by omega
      have HC := Lib.hid hc2
      clear hc2 hy2
      go_wp2
      go_ret
      exact ⟨s, by omega, rfl, HC.out, HG2.out⟩
  · have HC := Lib.hid hc2
    clear hc2 hy2
    go_wp2
    go_ret
    exact ⟨s, by omega, rfl, HC.out, HG2.out⟩
end Go.Proofs.YtobhdfkhfmpdlaaGreatDoor.Cur

/-
  CONTRACT of the model's draw l1Bent, as a function of the bytes of the draw, of where the cursor stood and of the text that is given.
-/
namespace Go.Proofs.YtobhdfkhfmpdlaaGreatDoor.Cf
open Go Go.RowKit Cur
set_option linter.unusedVariables false
set_option maxRecDepth 1000000

def byteOf (x : Int) : UInt8 := UInt8.ofNat x.toNat
theorem byteOf_eq {x : Int} (h0 : 0 ≤ x) (h1 : x ≤ 255) : ((byteOf x).toNat : Int) = x := by unfold byteOf; simp [UInt8.toNat_ofNat']; omega
def tails : List Int := [0, 32, 44, 34, 255]
/-- What l1Bent answers, and where it leaves the cursor. -/
def bentF (κ : Src) (s : List UInt8) (st : Int × Int) : List UInt8 × (Int × Int) :=
  if (belowF κ 7 st).1 = 0 then
    (if 0 < s.length then (s.set (belowF κ s.length (belowF κ 7 st).2).1.toNat (byteOf (belowF κ 256 (belowF κ s.length (belowF κ 7 st).2).2).1), (belowF κ 256 (belowF κ s.length (belowF κ 7 st).2).2).2) else (s, (belowF κ 7 st).2))
  else if (belowF κ 7 st).1 = 1 then (s.take (belowF κ ((s.length : Int) + 1) (belowF κ 7 st).2).1.toNat, (belowF κ ((s.length : Int) + 1) (belowF κ 7 st).2).2)
  else if (belowF κ 7 st).1 = 2 then (s ++ [byteOf (intF κ tails (belowF κ 7 st).2).1], (intF κ tails (belowF κ 7 st).2).2)
  else if (belowF κ 7 st).1 = 3 then
    (if 0 < s.length then (s.take (belowF κ s.length (belowF κ 7 st).2).1.toNat ++ s.drop ((belowF κ s.length (belowF κ 7 st).2).1.toNat + 1), (belowF κ s.length (belowF κ 7 st).2).2) else (s, (belowF κ 7 st).2))
  else (s, (belowF κ 7 st).2)
theorem bentF_len (κ : Src) (s : List UInt8) (st : Int × Int) : (bentF κ s st).1.length ≤ s.length + 1 := by
  unfold bentF
  split
  · split
    · simp
    · simp
  · split
    · simp; omega
    · split
      · simp
      · split
        · split
          · simp; omega
          · simp
        · simp

set_option maxHeartbeats 4000000 in
theorem bent_fn (c B : Nat) (bv : Value) (κ : Src) (st : Int × Int) (s : List UInt8) (w : World) (hcur : CurS w c bv st) (hby : BytesS w B bv κ) (hB : B ≤ c) (hs : s.length ≤ 1000000) :
    Calls Tryz.prog 19 #[.pointer (some ⟨c, 0, none⟩), .string ⟨s.toArray⟩] w (DrawnT (bentF κ s st) c bv w) := by
  generalize hP : bentF κ s st = P
  have HP := Lib.hid hP
  clear hP
  obtain ⟨i0, hi, hz0, hz1, hz2⟩ := info_parts Bys.info_byte
  obtain ⟨cap, w1, hcv, hr, hb1⟩ := to_room ⟨s.toArray⟩ w
  have hcl := curS_lt hcur
  rw [show (⟨s.toArray⟩ : ByteArray).size = s.length by simp [ByteArray.size]] at hcv
  have hc1 := curS_same hcur (hb1.block c hcl)
  have hy1 := bytesS_below hby (hb1.mono (by omega : B ≤ w.heap.size))
  have hg1 : w.grownBy w1 (some c) := gb_below (World.grownBy.refl _ _) hb1
  have HR1 : Hid (Room w1 w.heap.size cap s) := Lib.hid hr
  have HB1 := Lib.hid hb1
  clear hr hcur hby hb1
  go_enter Tryz.func19, Tryz.ntmps19
  go_wp2_with (fail)
  go_at_call 37
  have hn := belowF_under κ 7 st
  have k1 := below_fn c B bv κ st 7 _ hc1 hy1 hB (by omega)
  rcases hq1 : belowF κ 7 st with ⟨n, st1⟩
  rw [hq1] at hn k1
  have HQ1 := Lib.hid hq1
  clear hq1
  refine k1.mono ?_
  rintro e w2 ⟨rfl, hc2, hg2⟩
  have hy2 := bytesS_kept hy1 hg2 hB
  have HR2 := Lib.hid (room_gb HR1.out hg2 (by omega))
  have HG2 := Lib.hid (gb_trans hg1 hg2)
  have hn0 : 0 ≤ n := hn.1
  have hn1 := hn.2
  clear hn
  have hn7 : n < 7 := by have h : n < 7 ∨ _ := hn1; omega
  clear hn1 hc1 hy1 hg1 hg2 hcv HR1 k1
  have hbk0 := Bys.back w2 w.heap.size cap s HR2.out.1
  by_cases e0 : n = 0
  · subst e0
    by_cases h0 : 0 < s.length
    · have hsi : (0 : Int) < (s.length : Int) := by omega
      clear hbk0
      go_wp2_with (fail)
      go_at_call 37
      have hx := belowF_under κ (s.length : Int) st1
      have k2 := below_fn c B bv κ st1 (s.length : Int) _ hc2 hy2 hB (by omega)
      rcases hq2 : belowF κ (s.length : Int) st1 with ⟨x, st2⟩
      rw [hq2] at hx k2
      have hx0 : (0 : Int) ≤ x := hx.1
      have hx1 : x < (s.length : Int) ∨ _ := hx.2
      obtain ⟨j, rfl, hj⟩ : ∃ j : Nat, x = (j : Int) ∧ j < s.length := ⟨x.toNat, by omega, by omega⟩
      have HQ2 := Lib.hid hq2
      clear hq2 hx0 hx1
      refine k2.mono ?_
      rintro e w3 ⟨rfl, hc3, hg3⟩
      clear k2
      have hy3 := bytesS_kept hy2 hg3 hB
      clear hx
      go_wp2_with (fail)
      go_at_call 37
      have hy := belowF_under κ 256 st2
      have k3 := below_fn c B bv κ st2 256 _ hc3 hy3 hB (by omega)
      rcases hq3 : belowF κ 256 st2 with ⟨y, st3⟩
      rw [hq3] at hy k3
      have hyl : (0 : Int) ≤ y := hy.1
      have hyh : y < 256 ∨ _ := hy.2
      have hyu := byteOf_eq hyl (by omega)
      have hPe : P = (s.set j (byteOf y), st3) := by
        have h1 := HQ1.out; have h2 := HQ2.out
        rw [← HP.out]; unfold bentF
        simp only [h1, h2, hq3, if_pos, h0, Int.toNat_natCast]
      generalize byteOf y = u at hyu hPe
      subst hyu
      subst hPe
      clear hyl hyh hq3 HP
      refine k3.mono ?_
      rintro e w4 ⟨rfl, hc4, hg4⟩
      clear k3
      have hu0 : (0 : Int) ≤ (u.toNat : Int) := by omega
      have hu1 : (u.toNat : Int) ≤ 255 := by have := u.toNat_lt; omega
      have hg24 := gb_trans hg3 hg4
      have hR4 := room_gb HR2.out hg24 (by omega)
      have hcell := (hR4.1.2 j hj).1
      have hfz := (hR4.1.2 j hj).2
      have hji : (j : Int) < (s.length : Int) := by omega
      have hbk := Bys.back (w4.setCell ⟨w.heap.size, j, none⟩ (Bys.bvl u)) w.heap.size cap (s.set j u) (set_room u hR4 hj)
      rw [List.length_set] at hbk
      have HE := Lib.hid (And.intro True.intro (And.intro (curS_same (w' := w4.setCell ⟨w.heap.size, j, none⟩ (Bys.bvl u)) hc4 (Below.heap_setCell _ _ _ _ (by show c ≠ w.heap.size; omega))) (gb_below (gb_trans HG2.out hg24) (show Below w.heap.size w4 (w4.setCell ⟨w.heap.size, j, none⟩ (Bys.bvl u)) from Bys.below_set _ (Below.refl _ _) (Nat.le_refl _)))))
      unfold Bys.bvl at hbk hcell HE
      clear hy hc2 hc3 hc4 hy2 hy3 hg3 hg4 hg24 hR4
      go_wp2
      go_ret
      exact ⟨rfl, HE.out.2.1, HE.out.2.2⟩
    · have hsi : ¬ (0 : Int) < (s.length : Int) := by omega
      have hPe : P = (s, st1) := by
        have h1 := HQ1.out
        rw [← HP.out]; unfold bentF
        simp [h1, h0]
      subst hPe
      have HC := Lib.hid hc2
      clear hc2 hy2
      go_wp2
      go_ret
      exact ⟨rfl, HC.out, HG2.out⟩
  by_cases e1 : n = 1
  · subst e1
    clear hbk0
    go_wp2_with (fail)
    go_at_call 37
    have hx := belowF_under κ ((s.length : Int) + 1) st1
    have k2 := below_fn c B bv κ st1 ((s.length : Int) + 1) _ hc2 hy2 hB (by omega)
    rcases hq2 : belowF κ ((s.length : Int) + 1) st1 with ⟨x, st2⟩
    rw [hq2] at hx k2
    have hx0 : (0 : Int) ≤ x := hx.1
    have hx1 : x < (s.length : Int) + 1 ∨ _ := hx.2
    obtain ⟨j, rfl, hj⟩ : ∃ j : Nat, x = (j : Int) ∧ j ≤ s.length := ⟨x.toNat, by omega, by omega⟩
    have hPe : P = (s.take j, st2) := by
      have h1 := HQ1.out
      rw [← HP.out]; unfold bentF
      simp [h1, hq2]
    subst hPe
    clear hx0 hx1 hq2 HP
    refine k2.mono ?_
    rintro e w3 ⟨rfl, hc3, hg3⟩
    clear k2
    have hR3 := room_gb HR2.out hg3 (by omega)
    have hjc : j ≤ cap := Nat.le_trans hj hR3.2.1
    have hjci : (j : Int) ≤ (cap : Int) := by omega
    have hj0 : (0 : Int) ≤ (j : Int) := by omega
    have hbk := Bys.back w3 w.heap.size cap (s.take j) (bat_take j hR3.1)
    rw [List.length_take, Nat.min_eq_left hj] at hbk
    have HE := Lib.hid (And.intro True.intro (And.intro hc3 (gb_trans HG2.out hg3)))
    clear hx hc2 hc3 hy2 hg3 hR3
    go_wp2
    go_ret
    exact ⟨rfl, HE.out.2.1, HE.out.2.2⟩
  by_cases e2 : n = 2
  · subst e2
    clear hbk0
    have H := int_new c B bv κ st1 tails 5 rfl w2 hc2 hy2 hB (by decide) (by decide) 3
    have hy := intF_mem κ tails st1 (by decide)
    rcases hq2 : intF κ tails st1 with ⟨y, st2⟩
    rw [hq2] at H hy
    have hyb : 0 ≤ y ∧ y ≤ 255 := by
      have hy' : y ∈ tails := hy
      unfold tails at hy'; simp at hy'; omega
    have hyu := byteOf_eq hyb.1 hyb.2
    have hPe : P = (s ++ [byteOf y], st2) := by
      have h1 := HQ1.out
      rw [← HP.out]; unfold bentF
      simp [h1, hq2]
    generalize byteOf y = u at hyu hPe
    subst hyu
    clear hq2 HP
    go_wp2_with (fail)
    go_at_call 27
    refine H.mono ?_
    rintro e w3 ⟨rfl, hc3, hg3⟩
    have hu0 : (0 : Int) ≤ (u.toNat : Int) := by omega
    have hu1 : (u.toNat : Int) ≤ 255 := hyb.2
    have hR3 := room_gb HR2.out hg3 (by omega)
    obtain ⟨g', cap', w5, hap, hat, hbl⟩ := push_room u hR3 (by omega)
    have hbk := Bys.back w5 g' cap' (s ++ [u]) hat
    rw [List.length_append, show [u].length = 1 from rfl] at hbk
    have hb5 := hbl w.heap.size w3 (Below.refl _ _) (Nat.le_refl _) (gb_trans HG2.out hg3).size
    have hb6 := hbl (w.heap.size) w3 (Below.refl _ _) (Nat.le_refl _) (gb_trans HG2.out hg3).size
    have HE := Lib.hid (And.intro (curS_same hc3 (hb6.block c hcl)) (gb_below (gb_trans HG2.out hg3) hb5))
    unfold Bys.bvl at hap
    have HPe := Lib.hid hPe
    clear hPe
    generalize s ++ [u] = r at hbk HPe
    clear H hy hyb hc2 hc3 hy2 hg3 hR3 hat hbl hb5 hb6
    go_wp2_with (at_builtin; refine append_run rfl (.tmp 36) (.tmp 41) _ rfl rfl rfl hap ?_)
    go_ret
    obtain rfl := HPe.out
    exact ⟨rfl, HE.out.1, HE.out.2⟩
  by_cases e3 : n = 3
  · subst e3
    by_cases h0 : 0 < s.length
    · have hsi : (0 : Int) < (s.length : Int) := by omega
      clear hbk0
      go_wp2_with (fail)
      go_at_call 37
      have hx := belowF_under κ (s.length : Int) st1
      have k2 := below_fn c B bv κ st1 (s.length : Int) _ hc2 hy2 hB (by omega)
      rcases hq2 : belowF κ (s.length : Int) st1 with ⟨x, st2⟩
      rw [hq2] at hx k2
      have hx0 : (0 : Int) ≤ x := hx.1
      have hx1 : x < (s.length : Int) ∨ _ := hx.2
      obtain ⟨j, rfl, hj⟩ : ∃ j : Nat, x = (j : Int) ∧ j < s.length := ⟨x.toNat, by omega, by omega⟩
      have HQ2 := Lib.hid hq2
      clear hq2 hx0 hx1
      refine k2.mono ?_
      rintro e w3 ⟨rfl, hc3, hg3⟩
      clear k2
      have hPe : P = ([] ++ s.take j ++ s.drop (j + 1), st2) := by
        have h1 := HQ1.out; have h2 := HQ2.out
        rw [← HP.out]; unfold bentF
        simp [h1, h2, h0]
      have HPe := Lib.hid hPe
      clear hPe
      have hR3 := room_gb HR2.out hg3 (by omega)
      have hjc : j ≤ cap := Nat.le_trans (Nat.le_of_lt hj) hR3.2.1
      have hjc1 : j + 1 ≤ cap := Nat.le_trans hj hR3.2.1
      have HPRE : Hid (∀ u, Below w3.heap.size w3 u → Rec.Holds 1 ucs 0 u w3.heap.size (.slice (some ⟨w.heap.size, 0, none⟩) j cap) (s.take j)) := Lib.hid (fun u hu => Rec.holds_below (u_pre hR3 (Nat.le_of_lt hj)) hu)
      have HSUF : Hid (∀ u, Below w3.heap.size w3 u → Rec.Holds 1 ucs 0 u w3.heap.size (.slice (if cap = j + 1 then some ⟨w.heap.size, 0, none⟩ else some ⟨w.heap.size, j + 1, none⟩) (s.length - (j + 1)) (cap - (j + 1))) (s.drop (j + 1))) := Lib.hid (fun u hu => Rec.holds_below (u_suf hR3 hj) hu)
      have HBD : Hid (Below w3.heap.size w3 w3.drew) := Lib.hid (Below.refl _ _).drew
      have HSD : Hid (Hid (Below w3.heap.size w3 w3.drew)) := Lib.hid HBD
      have SA : Hid (∀ (u : World) (o : Obj), Hid (Below w3.heap.size w3 u) → Hid (Below w3.heap.size w3 (u.alloc o))) := Lib.hid (fun u o hb => Lib.hid (u_ba hb.out o))
      have HBA : Hid (Below w3.heap.size w3 (w3.alloc (.cells #[] 5)).drew) := Lib.hid (u_ba (Below.refl _ _) _).drew
      have HO3 : Hid ((w3.alloc (.cells #[] 5)).drew.ownsRow w3.heap.size 5 1 (.slice (some ⟨w3.heap.size, 0, none⟩) 0 0) ([] : List UInt8).length (Rec.flat ucs [])) := Lib.hid (u_nil (w := w3) (Nat.le_refl _) rfl)
      have HC3 := Lib.hid hc3
      have HG3 := Lib.hid (gb_trans HG2.out hg3)
      have hj0 : (0 : Int) ≤ (j : Int) := by omega
      have hjt : ((j : Int)).toNat = j := by omega
      have hji : (j : Int) < (s.length : Int) := by omega
      have hjci : (j : Int) ≤ (cap : Int) := by omega
      have hjs : (j : Int) + 1 ≤ (s.length : Int) := by omega
      have hj10 : (0 : Int) ≤ (j : Int) + 1 := by omega
      have hj11 : ((j : Int) + 1).toNat = j + 1 := by omega
      have hj12 : ¬ (j : Int) + 1 < 0 := by omega
      have hj13 : ¬ (s.length : Int) < (j : Int) + 1 := by omega
      have hw : IntKind.i64.wrap ((j : Int) + 1) = (j : Int) + 1 := IntWalk.i64_in _ (by omega)
      have hjc2 : (j : Int) + 1 ≤ (cap : Int) := by omega
      have hslc : s.length ≤ cap := HR2.out.2.1
      have hslci : (s.length : Int) ≤ (cap : Int) := by omega
      clear hx hc2 hc3 hy2 hg3 hR3
      go_wp2
      go_region_held_law (fun u => Hid (Below w3.heap.size w3 u))
        (first | exact HSD.out | exact Lib.hid (u_ba HBD.out _) | exact HB5 | exact HB3 | go_keep)
        (first
          | (refine Rec.step_holds ucs_len ucs_one (by rfl) (.tmp 52) (.tmp 55) 22 5 (by rfl) Tryz.underlying22 hi hz0 hz1 hz2 (by rfl) (by decide) (by rfl) (by rfl) HO3.out (HPRE.out _ HBA.out) (by simp only [List.length_take, List.length_nil, List.length_append, List.length_cons, List.length_drop]; unfold maxLen; omega) (by simp only [List.length_take, List.length_nil, List.length_append, List.length_cons, List.length_drop]; omega) HBA.out.size ?_; intro v1 w4 hown1 hgrow1; have HB3 : Hid (Below w3.heap.size w3 w4) := Lib.hid (u_bg HBA.out HO3.out (Nat.le_refl _) hgrow1))
          | (refine Rec.step_holds ucs_len ucs_one (by rfl) (.tmp 56) (.tmp 60) 22 5 (by rfl) Tryz.underlying22 hi hz0 hz1 hz2 (by rfl) (by decide) (by rfl) (by rfl) hown1 (HSUF.out _ HB3.out) (by simp only [List.length_take, List.length_nil, List.length_append, List.length_cons, List.length_drop]; unfold maxLen; omega) (by simp only [List.length_take, List.length_nil, List.length_append, List.length_cons, List.length_drop]; omega) HB3.out.size ?_; intro v2 w5 hown2 hgrow2; have HB5 : Hid (Below w3.heap.size w3 w5) := Lib.hid (u_bg HB3.out hown1 (Nat.le_refl _) hgrow2))
          | fail)
      all_goals (
        rw [flat_ucs] at hown2
        have hbk := Bys.own_str hown2
        have HE := Lib.hid (And.intro (curS_same HC3.out (HB5.out.block c (curS_lt HC3.out))) (gb_below HG3.out (HB5.out.mono HG3.out.size)))
        generalize [] ++ s.take j ++ s.drop (j + 1) = r at hbk HPe
        clear hown1 hgrow1 HB3 hown2 hgrow2 HB5 HPRE HSUF
        go_wp2
        all_goals go_ret
        all_goals (obtain rfl := HPe.out; exact ⟨rfl, HE.out.1, HE.out.2⟩))
    · have hsi : ¬ (0 : Int) < (s.length : Int) := by omega
      have hPe : P = (s, st1) := by
        have h1 := HQ1.out
        rw [← HP.out]; unfold bentF
        simp [h1, h0]
      subst hPe
      have HC := Lib.hid hc2
      clear hc2 hy2
      go_wp2
      go_ret
      exact ⟨rfl, HC.out, HG2.out⟩
  · have hPe : P = (s, st1) := by
      have h1 := HQ1.out
      rw [← HP.out]; unfold bentF
      simp [h1, e0, e1, e2, e3]
    subst hPe
    have HC := Lib.hid hc2
    clear hc2 hy2
    go_wp2
    go_ret
    exact ⟨rfl, HC.out, HG2.out⟩
end Go.Proofs.YtobhdfkhfmpdlaaGreatDoor.Cf

/-
  CONTRACT of the model's l1New, as a function: the cursor that it makes stands at the first byte, with a number that the bytes tell.
-/
namespace Go.Proofs.YtobhdfkhfmpdlaaGreatDoor.Cf
open Go Go.RowKit Cur
set_option linter.unusedVariables false
set_option maxRecDepth 1000000

def foldH (κ : Src) : Nat → Int
  | 0 => 271091 + (κ.1 : Int)
  | k + 1 => bits .and .i64 (wrap64 (wrap64 (wrap64 (foldH κ k * 139) + κ.2 k) + 11)) 1073741823
def newH (κ : Src) : Int := foldH κ (min κ.1 4000)
def MadeF (κ : Src) (bv : Value) (w : World) (e : Ending) (w' : World) : Prop := e = .returned (.pointer (some ⟨w.heap.size, 0, none⟩)) ∧ w' = w.alloc (.cells #[bv, .int .i64 0, .int .i64 (newH κ)] 70)

theorem new_fn (B : Nat) (bv : Value) (κ : Src) (w : World) (hby : BytesS w B bv κ) :
    Calls Tryz.prog 16 #[bv] w (MadeF κ bv w) := by
  obtain ⟨len, f⟩ := κ
  obtain ⟨a, cap, rfl, ha⟩ := hby
  have HF : Hid (0 < len → ∃ b off, a = some ⟨b, off, none⟩ ∧ len ≤ 140737488355328 ∧ ∀ j, j < len → 0 ≤ f j ∧ f j ≤ 255 ∧ w.cell? ⟨b, off + j, none⟩ = some (.int .u8 (f j))) := Lib.hid (fun h => by
    obtain ⟨b, off, h1, _, _, h4, h5⟩ := ha h; exact ⟨b, off, h1, h4, h5⟩)
  clear ha
  by_cases h0 : 0 < len
  · obtain ⟨b, off, rfl, hl, hf⟩ := HF.out h0
    have HF := Lib.hid hf
    clear hf
    show Calls _ _ #[.slice (some ⟨b, off, none⟩) len cap] w (MadeF (len, f) (.slice (some ⟨b, off, none⟩) len cap) w)
    have HS : Hid (271091 + (len : Int) = foldH (len, f) 0) := Lib.hid rfl
    go_enter Tryz.func16, Tryz.ntmps16
    go_wp2
    go_loop [3, 4] (fun h i => ∃ (k : Nat), k ≤ len ∧ k ≤ 4000 ∧ i = .int .i64 k ∧ h = .int .i64 (foldH (len, f) k)) (fun _ i => len - (intOf i).toNat)
    case atStart => exact ⟨0, Nat.zero_le _, by omega, rfl, by rw [← HS.out]⟩
    case round =>
      obtain ⟨k, hk, hk4, rfl, rfl⟩ := hrel
      have HX : Hid (bits .and .i64 (wrap64 (wrap64 (wrap64 (foldH (len, f) k * 139) + f k) + 11)) 1073741823 = foldH (len, f) (k + 1)) := Lib.hid rfl
      have HE : Hid (k = min len 4000 → foldH (len, f) k = newH (len, f)) := Lib.hid (fun h => by unfold newH; rw [h])
      generalize foldH (len, f) k = x at HX HE ⊢
      by_cases hlt : k < len
      · by_cases h4 : (k : Int) < 4000
        · obtain ⟨z0, z1, hc⟩ := HF.out k hlt
          generalize f k = z at z0 z1 hc HX
          go_wp2
          go_round
          case rel => exact ⟨k + 1, by omega, by omega, by go_num, by rw [← HX.out]⟩
          case measure => simp [intOf]; omega
        · have hq := HE.out (by omega)
          go_wp2
          go_ret
          exact ⟨rfl, by rw [← hq]⟩
      · have hq := HE.out (by omega)
        go_wp2
        go_ret
        exact ⟨rfl, by rw [← hq]⟩
  · obtain rfl : len = 0 := by omega
    have HN : Hid (271091 = newH (0, f)) := Lib.hid (by unfold newH; rfl)
    clear HF
    show Calls _ _ #[.slice a 0 cap] w (MadeF (0, f) (.slice a 0 cap) w)
    go_enter Tryz.func16, Tryz.ntmps16
    go_wp2
    go_loop [3, 4] (fun h i => i = .int .i64 0 ∧ h = .int .i64 271091) (fun _ i => 0)
    case atStart => exact ⟨rfl, rfl⟩
    case round =>
      obtain ⟨rfl, rfl⟩ := hrel
      go_wp2
      go_ret
      exact ⟨rfl, by rw [← HN.out]⟩
theorem made_curS (bv : Value) (h : Int) (w : World) : CurS (w.alloc (.cells #[bv, .int .i64 0, .int .i64 h] 70)) w.heap.size bv (0, h) :=
  ⟨Int.le_refl _, by show (w.heap.push _)[w.heap.size]? = _; simp⟩
end Go.Proofs.YtobhdfkhfmpdlaaGreatDoor.Cf

/-
  PLAIN FACTS OF DECIMAL NUMERALS: the digits of a number as the model writes them, one in front of the other; no word of the program stands here.
-/
namespace Go.Proofs.YtobhdfkhfmpdlaaGreatDoor.Fmt
open Go Go.RowKit
set_option linter.unusedVariables false
set_option maxRecDepth 1000000

/-- the digits of u; nothing for 0. -/
def dd (u : Nat) : List UInt8 := if u = 0 then [] else Lib.decDigits u
theorem dd_zero : dd 0 = [] := rfl
theorem dd_pos {u : Nat} (h : u ≠ 0) : dd u = Lib.decDigits u := by unfold dd; rw [if_neg h]
theorem dd_step {u : Nat} (h : u ≠ 0) : dd u = dd (u / 10) ++ [UInt8.ofNat (48 + u % 10)] := by
  rw [dd_pos h, Lib.decDigits]
  by_cases hs : u < 10
  · rw [dif_pos hs, show u / 10 = 0 by omega, dd_zero, show u % 10 = u by omega]; rfl
  · rw [dif_neg hs, dd_pos (by omega)]
theorem nDigits_le (k : Nat) : ∀ u : Nat, u < 10 ^ k → Lib.nDigits u ≤ max k 1 := by
  induction k with
  | zero => intro u h; rw [Lib.nDigits_small (by simp at h; omega)]; omega
  | succ k ih =>
    intro u h
    by_cases hs : u < 10
    · rw [Lib.nDigits_small hs]; omega
    · rw [Lib.nDigits_big hs]
      have hk : k ≠ 0 := by rintro rfl; simp at h; omega
      have := ih (u / 10) (by rw [Nat.pow_succ] at h; omega)
      omega
theorem dd_len {u : Nat} (h : u ≤ 9223372036854775808) : (dd u).length ≤ 19 := by
  unfold dd
  split
  · simp
  · rw [Lib.decDigits_length]
    have := nDigits_le 19 u (by omega)
    omega
theorem itoa_zero : Lib.itoa 0 = [48] := by decide +kernel
theorem itoa_pos {n : Int} (h : 0 < n) : Lib.itoa n = dd n.natAbs := by
  unfold Lib.itoa; rw [if_neg (by omega), dd_pos (by omega)]; congr 1; omega
theorem itoa_neg {n : Int} (h : n < 0) : Lib.itoa n = 45 :: dd n.natAbs := by
  unfold Lib.itoa; rw [if_pos h, dd_pos (by omega)]
theorem itoa_len {n : Int} (h0 : -9223372036854775808 ≤ n) (h1 : n ≤ 9223372036854775807) : 1 ≤ (Lib.itoa n).length ∧ (Lib.itoa n).length ≤ 20 := by
  have hl := dd_len (u := n.natAbs) (by omega)
  rcases Int.lt_trichotomy n 0 with h | h | h
  · rw [itoa_neg h]; simp; omega
  · subst h; rw [itoa_zero]; simp
  · rw [itoa_pos h]
    refine ⟨?_, by omega⟩
    rw [dd_step (by omega)]; simp
end Go.Proofs.YtobhdfkhfmpdlaaGreatDoor.Fmt
