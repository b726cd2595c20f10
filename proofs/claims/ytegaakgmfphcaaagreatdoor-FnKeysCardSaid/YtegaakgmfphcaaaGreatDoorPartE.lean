/-
  CONTRACTS AND PLAIN FACTS, several texts in one; each says in its own words what it proves.
-/
import Derived.Test.YtegaakgmfphcaaaGreatDoorPartD
import Derived.Deep.AppendLies
import Derived.Deep.RegionHeldLaw
import Derived.RegionTactic
import Derived.Deep.RegionWith
import Derived.Test.YtegaakgmfphcaaaGreatDoorPartC
import Derived.Test.YtegaakgmfphcaaaGreatDoorPartB
set_option linter.unusedSimpArgs false
set_option linter.unusedVariables false

/-
  CONTRACT of the model's draw l1Bent: it answers some text that is at most one byte longer than the one given, writes into the cursor alone, and leaves it a cursor over the same bytes.
-/
namespace Go.Proofs.YtegaakgmfphcaaaGreatDoor.Cur
open Go Go.RowKit
set_option linter.unusedVariables false
set_option maxRecDepth 1000000

def ucs (c : UInt8) : List Value := [Bys.bvl c]
theorem ucs_len : ∀ a, (ucs a).length = 1 := fun _ => rfl
theorem ucs_one : ∀ a, ∀ u ∈ ucs a, u.oneCell' = true := fun a => Bys.bvl_one a
theorem flat_ucs (l : List UInt8) : Rec.flat ucs l = Bys.bvs l := by
  induction l with
  | nil => rfl
  | cons c r ih =>
    show ucs c ++ Rec.flat ucs r = _
    rw [ih]; rfl
theorem uc_at {w : World} {b off : Nat} {l : List UInt8} (h : ∀ j, j < l.length → w.cell? ⟨b, off + j, none⟩ = some (Bys.bvl (l.getD j 0))) : Rec.At 1 ucs 0 w b off l := fun j hj i u hu => by
  unfold ucs at hu
  match i, hu with
  | 0, hu => simp at hu; subst hu; rw [Nat.mul_one, Nat.add_zero]; exact h j hj
theorem u_nil {w : World} {B N : Nat} {T : TypeId} (hB : B ≤ w.heap.size) (hN : w.heap.size = N) : (w.alloc (.cells #[] T)).ownsRow B T 1 (.slice (some ⟨N, 0, none⟩) 0 0) ([] : List UInt8).length (Rec.flat ucs []) := by
  subst hN; exact Rec.own_mono (Rec.own_lit_nil (cs := ucs) _ _) hB
theorem u_ba {a w : World} (h : Below a.heap.size a w) (o : Obj) : Below a.heap.size a (w.alloc o) := h.alloc h.size o
theorem u_bg {a w w' : World} {B n : Nat} {T : TypeId} {v : Value} {xs : List Value} (h : Below a.heap.size a w) (hown : w.ownsRow B T 1 v n xs) (hB : a.heap.size ≤ B) (hg : w.grownBy w' v.ownBlock) : Below a.heap.size a w' :=
  h.grown hg h.size (fun k e => Nat.le_trans hB (hown.lt k e).1)
theorem u_pre {w : World} {g cap m : Nat} {l : List UInt8} (h : Room w g cap l) (hm : m ≤ l.length) : Rec.Holds 1 ucs 0 w w.heap.size (.slice (some ⟨g, 0, none⟩) m cap) (l.take m) := by
  by_cases h0 : m = 0
  · subst h0; exact Or.inl ⟨by simp, _, _, rfl⟩
  · have hl : (l.take m).length = m := by rw [List.length_take]; omega
    refine Or.inr ⟨by omega, g, 0, cap, by rw [hl], h.1.1, by have := h.2.1; omega, uc_at (fun j hj => ?_)⟩
    rw [Nat.zero_add, (h.1.2 j (by omega)).1]; rw [hl] at hj; congr 2; simp [List.getD, hj]
theorem u_suf {w : World} {g cap m : Nat} {l : List UInt8} (h : Room w g cap l) (hm : m ≤ l.length) : Rec.Holds 1 ucs 0 w w.heap.size (.slice (if cap = m then some ⟨g, 0, none⟩ else some ⟨g, m, none⟩) (l.length - m) (cap - m)) (l.drop m) := by
  have hc := h.2.1
  by_cases e : cap = m
  · rw [if_pos e, show l.length - m = 0 by omega]; exact Or.inl ⟨List.drop_eq_nil_of_le (by omega), _, _, rfl⟩
  · rw [if_neg e]
    by_cases h0 : m = l.length
    · subst h0; rw [Nat.sub_self]; exact Or.inl ⟨by simp, _, _, rfl⟩
    · have hl : (l.drop m).length = l.length - m := by rw [List.length_drop]
      refine Or.inr ⟨by omega, g, m, cap - m, by rw [hl], h.1.1, by omega, uc_at (fun j hj => ?_)⟩
      rw [(h.1.2 (m + j) (by omega)).1]; congr 2; simp [List.getD, List.getElem?_drop]
theorem bat_take {w : World} {g : Nat} {l : List UInt8} (k : Nat) (h : Bys.BAt w g l) : Bys.BAt w g (l.take k) := ⟨h.1, fun j hj => by
  rw [List.length_take] at hj
  refine ⟨?_, (h.2 j (by omega)).2⟩
  rw [(h.2 j (by omega)).1]; congr 2; simp [List.getD, show j < k by omega]⟩
theorem cur_same {w w' : World} {c : Nat} {bv : Value} (h : CurAt w c bv) (hb : w'.heap[c]? = w.heap[c]?) : CurAt w' c bv := by
  obtain ⟨i, k, h0, hh⟩ := h
  exact ⟨i, k, h0, by rw [hb]; exact hh⟩
theorem gb_below {a w w' : World} {c : Nat} (h : a.grownBy w (some c)) (hb : Below a.heap.size w w') : a.grownBy w' (some c) :=
  ⟨hb.os.trans h.os, hb.tape.trans h.tape, hb.output.trans h.output, Nat.le_trans h.size hb.size, fun i hi hn => (hb.block i hi).trans (h.block i hi hn)⟩
theorem append_run {P : Program} {w w' : World} {ops : Array Oper} {rest : List Oper} {o : Oper} {a : Act} {Q : Exit → Act → World → Prop} (hgd : o.guard = none) (s x : Operand) (t : TypeId)
    (ho : o.op = .call { callee := .builtin .append, args := #[s, x], argTypes := #[t, t] }) {v1 v2 v' : Value} (hs : a.eval s = v1) (hx : a.eval x = v2)
    (hr : (Builtin.append_ #[t, t] o.type #[v1, v2]).run P w = .ok v' w') (h : wpList P ops Q rest (a.put o.dst v') w') : wpList P ops Q (o :: rest) a w := by
  refine wpList_plain hgd fun K' hK' => ?_
  unfold Oper.wp
  simp [execOp, ho, resolve, invoke, builtin, hs, hx, hr, Result.andThen]
  exact hK' _ _ h

set_option maxHeartbeats 4000000 in
theorem bent_any (c B : Nat) (bv : Value) (s : List UInt8) (w : World) (hcur : CurAt w c bv) (hby : Bytes w B bv) (hB : B ≤ c) (hs : s.length ≤ 1000000) :
    Calls Tryz.prog 56 #[.pointer (some ⟨c, 0, none⟩), .string ⟨s.toArray⟩] w (DrawnS (fun x => x.length ≤ s.length + 1) c bv w) := by
  obtain ⟨i0, hi, hz0, hz1, hz2⟩ := info_parts Bys.info_byte
  obtain ⟨cap, w1, hcv, hr, hb1⟩ := to_room ⟨s.toArray⟩ w
  have hcl := cur_lt hcur
  rw [show (⟨s.toArray⟩ : ByteArray).size = s.length by simp [ByteArray.size]] at hcv
  have hc1 := cur_same hcur (hb1.block c hcl)
  have hy1 := bytes_below hby (hb1.mono (by omega : B ≤ w.heap.size))
  have hg1 : w.grownBy w1 (some c) := gb_below (World.grownBy.refl _ _) hb1
  have HR1 : Hid (Room w1 w.heap.size cap s) := Lib.hid hr
  have HB1 := Lib.hid hb1
  clear hr hcur hby hb1
  go_enter Tryz.func56, Tryz.ntmps56
  go_wp2_with (fail)
  go_at_call 23
  refine (below_any c B bv 7 _ hc1 hy1 hB (by omega)).mono ?_
  rintro e w2 ⟨n, hn, rfl, hc2, hg2⟩
  have hy2 := bytes_kept hy1 hg2 hB
  have HR2 := Lib.hid (room_gb HR1.out hg2 (by omega))
  have HG2 := Lib.hid (gb_trans hg1 hg2)
  obtain ⟨hn0, hn1⟩ := hn
  have hn7 : n < 7 := by omega
  clear hn1 hc1 hy1 hg1 hg2 hcv HR1
  have hbk0 := Bys.back w2 w.heap.size cap s HR2.out.1
  by_cases e0 : n = 0
  · subst e0
    by_cases h0 : 0 < s.length
    · have hsi : (0 : Int) < (s.length : Int) := by omega
      clear hbk0
      go_wp2_with (fail)
      go_at_call 23
      refine (below_any c B bv (s.length : Int) _ hc2 hy2 hB (by omega)).mono ?_
      rintro e w3 ⟨x, hx, rfl, hc3, hg3⟩
      obtain ⟨j, rfl, hj⟩ : ∃ j : Nat, x = (j : Int) ∧ j < s.length := ⟨x.toNat, by have := hx.1; omega, by have := hx.1; have := hx.2; omega⟩
      have hy3 := bytes_kept hy2 hg3 hB
      clear hx
      go_wp2_with (fail)
      go_at_call 23
      refine (below_any c B bv 256 _ hc3 hy3 hB (by omega)).mono ?_
      rintro e w4 ⟨y, hy, rfl, hc4, hg4⟩
      obtain ⟨u, rfl⟩ : ∃ u : UInt8, y = (u.toNat : Int) := ⟨UInt8.ofNat y.toNat, by have := hy.1; have := hy.2; simp [UInt8.toNat_ofNat']; omega⟩
      have hu0 : (0 : Int) ≤ (u.toNat : Int) := by omega
      have hu1 : (u.toNat : Int) ≤ 255 := by have := u.toNat_lt; omega
      have hg24 := gb_trans hg3 hg4
      have hR4 := room_gb HR2.out hg24 (by omega)
      have hcell := (hR4.1.2 j hj).1
      have hfz := (hR4.1.2 j hj).2
      have hji : (j : Int) < (s.length : Int) := by omega
      have hbk := Bys.back (w4.setCell ⟨w.heap.size, j, none⟩ (Bys.bvl u)) w.heap.size cap (s.set j u) (set_room u hR4 hj)
      rw [List.length_set] at hbk
      have HE := Lib.hid (And.intro (show (s.set j u).length ≤ s.length + 1 by rw [List.length_set]; omega) (And.intro (cur_same (w' := w4.setCell ⟨w.heap.size, j, none⟩ (Bys.bvl u)) hc4 (Below.heap_setCell _ _ _ _ (by show c ≠ w.heap.size; omega))) (gb_below (gb_trans HG2.out hg24) (show Below w.heap.size w4 (w4.setCell ⟨w.heap.size, j, none⟩ (Bys.bvl u)) from Bys.below_set _ (Below.refl _ _) (Nat.le_refl _)))))
      unfold Bys.bvl at hbk hcell HE
      clear hy hc2 hc3 hc4 hy2 hy3 hg3 hg4 hg24 hR4
      go_wp2
      go_ret
      exact ⟨_, HE.out.1, rfl, HE.out.2.1, HE.out.2.2⟩
    · have hsi : ¬ (0 : Int) < (s.length : Int) := by omega
      have HC := Lib.hid hc2
      clear hc2 hy2
      go_wp2
      go_ret
      exact ⟨s, by omega, rfl, HC.out, HG2.out⟩
  by_cases e1 : n = 1
  · subst e1
    clear hbk0
    go_wp2_with (fail)
    go_at_call 23
    refine (below_any c B bv ((s.length : Int) + 1) _ hc2 hy2 hB (by omega)).mono ?_
    rintro e w3 ⟨x, hx, rfl, hc3, hg3⟩
    obtain ⟨j, rfl, hj⟩ : ∃ j : Nat, x = (j : Int) ∧ j ≤ s.length := ⟨x.toNat, by have := hx.1; omega, by have := hx.1; have := hx.2; omega⟩
    have hR3 := room_gb HR2.out hg3 (by omega)
    have hjc : j ≤ cap := Nat.le_trans hj hR3.2.1
    have hjci : (j : Int) ≤ (cap : Int) := by omega
    have hj0 : (0 : Int) ≤ (j : Int) := by omega
    have hbk := Bys.back w3 w.heap.size cap (s.take j) (bat_take j hR3.1)
    rw [List.length_take, Nat.min_eq_left hj] at hbk
    have HE := Lib.hid (And.intro (show (s.take j).length ≤ s.length + 1 by rw [List.length_take]; omega) (And.intro hc3 (gb_trans HG2.out hg3)))
    clear hx hc2 hc3 hy2 hg3 hR3
    go_wp2
    go_ret
    exact ⟨_, HE.out.1, rfl, HE.out.2.1, HE.out.2.2⟩
  by_cases e2 : n = 2
  · subst e2
    clear hbk0
    have H := int_lits c B bv [0, 32, 44, 34, 255] 5 rfl w2 hc2 hy2 hB (by decide) (by decide) 3
    go_wp2_with (fail)
    go_at_call 78
    refine H.mono ?_
    rintro e w3 ⟨y, hy, rfl, hc3, hg3⟩
    have hyb : 0 ≤ y ∧ y ≤ 255 := by simp at hy; omega
    obtain ⟨u, rfl⟩ : ∃ u : UInt8, y = (u.toNat : Int) := ⟨UInt8.ofNat y.toNat, by have := hyb.1; have := hyb.2; simp [UInt8.toNat_ofNat']; omega⟩
    have hu0 : (0 : Int) ≤ (u.toNat : Int) := by omega
    have hu1 : (u.toNat : Int) ≤ 255 := hyb.2
    have hR3 := room_gb HR2.out hg3 (by omega)
    obtain ⟨g', cap', w5, hap, hat, hbl⟩ := push_room u hR3 (by omega)
    have hbk := Bys.back w5 g' cap' (s ++ [u]) hat
    rw [List.length_append, show [u].length = 1 from rfl] at hbk
    have HL : Hid ((s ++ [u]).length ≤ s.length + 1) := Lib.hid (by rw [List.length_append]; simp)
    have hb5 := hbl w.heap.size w3 (Below.refl _ _) (Nat.le_refl _) (gb_trans HG2.out hg3).size
    have hb6 := hbl (w.heap.size) w3 (Below.refl _ _) (Nat.le_refl _) (gb_trans HG2.out hg3).size
    have HE := Lib.hid (And.intro (cur_same hc3 (hb6.block c hcl)) (gb_below (gb_trans HG2.out hg3) hb5))
    unfold Bys.bvl at hap
    generalize s ++ [u] = r at hbk HL
    clear H hy hyb hc2 hc3 hy2 hg3 hR3 hat hbl hb5 hb6
    go_wp2_with (at_builtin; refine append_run rfl (.tmp 36) (.tmp 41) _ rfl rfl rfl hap ?_)
    go_ret
    exact ⟨_, HL.out, rfl, HE.out.1, HE.out.2⟩
  by_cases e3 : n = 3
  · subst e3
    by_cases h0 : 0 < s.length
    · have hsi : (0 : Int) < (s.length : Int) := by omega
      clear hbk0
      go_wp2_with (fail)
      go_at_call 23
      refine (below_any c B bv (s.length : Int) _ hc2 hy2 hB (by omega)).mono ?_
      rintro e w3 ⟨x, hx, rfl, hc3, hg3⟩
      obtain ⟨j, rfl, hj⟩ : ∃ j : Nat, x = (j : Int) ∧ j < s.length := ⟨x.toNat, by have := hx.1; omega, by have := hx.1; have := hx.2; omega⟩
      have hR3 := room_gb HR2.out hg3 (by omega)
      have hjc : j ≤ cap := Nat.le_trans (Nat.le_of_lt hj) hR3.2.1
      have hjc1 : j + 1 ≤ cap := Nat.le_trans hj hR3.2.1
      have HPRE : Hid (∀ u, Below w3.heap.size w3 u → Rec.Holds 1 ucs 0 u w3.heap.size (.slice (some ⟨w.heap.size, 0, none⟩) j cap) (s.take j)) := Lib.hid (fun u hu => Rec.holds_below (u_pre hR3 (Nat.le_of_lt hj)) hu)
      have HSUF : Hid (∀ u, Below w3.heap.size w3 u → Rec.Holds 1 ucs 0 u w3.heap.size (.slice (if cap = j + 1 then some ⟨w.heap.size, 0, none⟩ else some ⟨w.heap.size, j + 1, none⟩) (s.length - (j + 1)) (cap - (j + 1))) (s.drop (j + 1))) := Lib.hid (fun u hu => Rec.holds_below (u_suf hR3 hj) hu)
      have HBD : Hid (Below w3.heap.size w3 w3.drew) := Lib.hid (Below.refl _ _).drew
      have HSD : Hid (Hid (Below w3.heap.size w3 w3.drew)) := Lib.hid HBD
      have SA : Hid (∀ (u : World) (o : Obj), Hid (Below w3.heap.size w3 u) → Hid (Below w3.heap.size w3 (u.alloc o))) := Lib.hid (fun u o hb => Lib.hid (u_ba hb.out o))
      have HBA : Hid (Below w3.heap.size w3 (w3.alloc (.cells #[] 5)).drew) := Lib.hid (u_ba (Below.refl _ _) _).drew
      have HO3 : Hid ((w3.alloc (.cells #[] 5)).drew.ownsRow w3.heap.size 5 1 (.slice (some ⟨w3.heap.size, 0, none⟩) 0 0) ([] : List UInt8).length (Rec.flat ucs [])) := Lib.hid (u_nil (w := w3) (Nat.le_refl _) rfl)
      have HC3 := Lib.hid hc3
      have HG3 := Lib.hid (gb_trans HG2.out hg3)
      have hj0 : (0 : Int) ≤ (j : Int) := by omega
      have hjt : ((j : Int)).toNat = j := by omega
      have hji : (j : Int) < (s.length : Int) := by omega
      have hjci : (j : Int) ≤ (cap : Int) := by omega
      have hjs : (j : Int) + 1 ≤ (s.length : Int) := by omega
      have hj10 : (0 : Int) ≤ (j : Int) + 1 := by omega
      have hj11 : ((j : Int) + 1).toNat = j + 1 := by omega
      have hj12 : ¬ (j : Int) + 1 < 0 := by omega
      have hj13 : ¬ (s.length : Int) < (j : Int) + 1 := by omega
      have hw : IntKind.i64.wrap ((j : Int) + 1) = (j : Int) + 1 := IntWalk.i64_in _ (by omega)
      have hjc2 : (j : Int) + 1 ≤ (cap : Int) := by omega
      have hslc : s.length ≤ cap := HR2.out.2.1
      have hslci : (s.length : Int) ≤ (cap : Int) := by omega
      clear hx hc2 hc3 hy2 hg3 hR3
      go_wp2
      go_region_held_law (fun u => Hid (Below w3.heap.size w3 u))
        (first | exact HSD.out | exact Lib.hid (u_ba HBD.out _) | exact HB5 | exact HB3 | go_keep)
        (first
          | (refine Rec.step_holds ucs_len ucs_one (by rfl) (.tmp 52) (.tmp 55) 22 5 (by rfl) Tryz.underlying22 hi hz0 hz1 hz2 (by rfl) (by decide) (by rfl) (by rfl) HO3.out (HPRE.out _ HBA.out) (by simp only [List.length_take, List.length_nil, List.length_append, List.length_cons, List.length_drop]; unfold maxLen; omega) (by simp only [List.length_take, List.length_nil, List.length_append, List.length_cons, List.length_drop]; omega) HBA.out.size ?_; intro v1 w4 hown1 hgrow1; have HB3 : Hid (Below w3.heap.size w3 w4) := Lib.hid (u_bg HBA.out HO3.out (Nat.le_refl _) hgrow1))
          | (refine Rec.step_holds ucs_len ucs_one (by rfl) (.tmp 56) (.tmp 60) 22 5 (by rfl) Tryz.underlying22 hi hz0 hz1 hz2 (by rfl) (by decide) (by rfl) (by rfl) hown1 (HSUF.out _ HB3.out) (by simp only [List.length_take, List.length_nil, List.length_append, List.length_cons, List.length_drop]; unfold maxLen; omega) (by simp only [List.length_take, List.length_nil, List.length_append, List.length_cons, List.length_drop]; omega) HB3.out.size ?_; intro v2 w5 hown2 hgrow2; have HB5 : Hid (Below w3.heap.size w3 w5) := Lib.hid (u_bg HB3.out hown1 (Nat.le_refl _) hgrow2))
          | fail)
      all_goals (
        rw [flat_ucs] at hown2
        have hbk := Bys.own_str hown2
        have HL : Hid (([] ++ s.take j ++ s.drop (j + 1)).length ≤ s.length + 1) := Lib.hid (by simp only [List.length_take, List.length_nil, List.length_append, List.length_drop]; omega)
        have HE := Lib.hid (And.intro (cur_same HC3.out (HB5.out.block c (cur_lt HC3.out))) (gb_below HG3.out (HB5.out.mono HG3.out.size)))
        generalize [] ++ s.take j ++ s.drop (j + 1) = r at hbk HL
        clear hown1 hgrow1 HB3 hown2 hgrow2 HB5 HPRE HSUF
        go_wp2
        all_goals go_ret
        all_goals exact ⟨_, HL.out, rfl, HE.out.1, HE.out.2⟩)
    · have hsi : ¬ (0 : Int) < (s.length : Int) := by omega
      have HC := Lib.hid hc2
      clear hc2 hy2
      go_wp2
      go_ret
      exact ⟨s, by omega, rfl, HC.out, HG2.out⟩
  · have HC := Lib.hid hc2
    clear hc2 hy2
    go_wp2
    go_ret
    exact ⟨s, by omega, rfl, HC.out, HG2.out⟩
end Go.Proofs.YtegaakgmfphcaaaGreatDoor.Cur

/-
  CONTRACTS of the draws of chapter 12 (l12Some, DrawNormalTarget, DrawKeyOf): over any slice of bytes they answer a short target, a request with few short fields in memory of their own; nothing that was there before is changed.
-/
namespace Go.Proofs.YtegaakgmfphcaaaGreatDoor.Cur
open Go Go.RowKit
set_option linter.unusedVariables false
set_option maxRecDepth 1000000

def ksome : List (List UInt8) := [[47], [47, 46], [47, 46, 46], [47, 97], [47, 98, 37, 50, 48, 99], [47, 37, 55, 101], [37, 50, 102], [37, 122, 122], [63], [38], [98, 61, 49], [97, 61, 50], [37, 51, 68], [195, 169]]
theorem ksome_len (x : List UInt8) (h : x ∈ ksome) : x.length ≤ 6 := by
  have hall : ksome.all (fun x => decide (x.length ≤ 6)) = true := by decide
  have := List.all_eq_true.1 hall x h
  simpa using this
set_option maxHeartbeats 2000000 in
theorem some12 (c B : Nat) (bv : Value) (w : World) (hcur : CurAt w c bv) (hby : Bytes w B bv) (hB : B ≤ c) :
    Calls Tryz.prog 36 #[.pointer (some ⟨c, 0, none⟩)] w (DrawnS (fun x => x.length ≤ 40) c bv w) := by
  go_enter Tryz.func36, Tryz.ntmps36
  go_wp2_with (fail)
  go_at_call 46
  refine (once_any c B bv 3 _ hcur hby hB (by omega)).mono ?_
  rintro e w1 ⟨q, rfl, hc1, hg1⟩
  have hy1 := bytes_kept hby hg1 hB
  clear hcur hby
  cases q with
  | true =>
    go_wp2_with (fail)
    go_at_call 48
    refine (targ_any c B bv w1 hc1 hy1 hB).mono ?_
    rintro e w2 ⟨x, hx, rfl, hc2, hg2⟩
    have hx' : x.length ≤ 10 := hx
    have hy2 := bytes_kept hy1 hg2 hB
    have HG2 := Lib.hid (gb_trans hg1 hg2)
    clear hx hg1 hg2 hc1 hy1
    go_wp2_with (fail)
    go_at_call 56
    refine (bent_any c B bv x w2 hc2 hy2 hB (by omega)).mono ?_
    rintro e w3 ⟨z, hz, rfl, hc3, hg3⟩
    have HZ : Hid (z.length ≤ 40) := Lib.hid (by have h2 : z.length ≤ x.length + 1 := hz; omega)
    have HE := Lib.hid (And.intro hc3 (gb_trans HG2.out hg3))
    clear hz hc3 hg3 hc2 hy2 HG2
    go_wp2
    go_ret
    exact ⟨_, HZ.out, rfl, HE.out.1, HE.out.2⟩
  | false =>
    go_wp2_with (fail)
    go_at_call 23
    refine (below_any c B bv 6 _ hc1 hy1 hB (by omega)).mono ?_
    rintro e w2 ⟨x, hx, rfl, hc2, hg2⟩
    obtain ⟨n, rfl, hn⟩ : ∃ n : Nat, x = (n : Int) ∧ n ≤ 5 := ⟨x.toNat, by have := hx.1; omega, by have := hx.1; have := hx.2; omega⟩
    have HI := Lib.hid (And.intro hc2 (And.intro (bytes_kept hy1 hg2 hB) (gb_trans hg1 hg2)))
    clear hx hc2 hg2 hy1 hc1 hg1
    go_wp2
    go_loopw [3, 4] (fun s i wr => ∃ (k : Nat) (l : List UInt8), i = .int .i64 (k : Int) ∧ s = .string ⟨l.toArray⟩ ∧ l.length + 6 * k ≤ 30 ∧ Hid (CurAt wr c bv) ∧ Hid (Bytes wr B bv) ∧ Hid (w.grownBy wr (some c))) (fun _ i _ => (intOf i).toNat)
    case atStart => exact ⟨n, [], rfl, rfl, by simp; omega, Lib.hid HI.out.1, Lib.hid HI.out.2.1, Lib.hid HI.out.2.2⟩
    case round =>
      clear HI
      obtain ⟨k, l, rfl, rfl, hl, HC, HY, HG⟩ := hrel
      by_cases hz : 0 < k
      · have hzi : 0 < (k : Int) := by omega
        have H := str_lits c B bv ksome 14 rfl wr HC.out HY.out hB (by decide) (by decide) 9
        go_wp2_with (fail)
        go_at_call 24
        refine H.mono ?_
        rintro e w5 ⟨z, hz', rfl, hc5, hg5⟩
        have hz8 := ksome_len z hz'
        have hadd := Tx.addtwo l z (by omega)
        have HC5 := Lib.hid hc5
        have HY5 := Lib.hid (bytes_kept HY.out hg5 hB)
        have HG5 := Lib.hid (gb_trans HG.out hg5)
        have HE := Lib.hid (show (l ++ z).length + 6 * (k - 1) ≤ 30 by rw [List.length_append]; omega)
        have HK := Lib.hid (show (k : Int) - 1 = ((k - 1 : Nat) : Int) by omega)
        clear hz' hc5 hg5 H hz8 HC HY HG
        go_wp2
        go_roundw
        case rel => exact ⟨k - 1, l ++ z, by rw [← HK.out], by simp, HE.out, HC5, HY5, HG5⟩
        case measure => simp [intOf]; omega
      · have hzi : ¬ 0 < (k : Int) := by omega
        have hadd := Tx.addtwo [47] l (by simp; omega)
        have HE := Lib.hid (show ([47] ++ l).length ≤ 40 by rw [List.length_append]; simp; omega)
        clear hl
        go_wp2
        go_ret
        exact ⟨[47] ++ l, HE.out, by simp, HC.out, HG.out⟩

def OneT (w : World) (e : Ending) (w' : World) : Prop := ∃ x : List UInt8, x.length ≤ 40 ∧ e = .returned (.string ⟨x.toArray⟩) ∧ Below w.heap.size w w'
theorem draw_nt (B : Nat) (bv : Value) (w : World) (hby : Bytes w B bv) (hB : B ≤ w.heap.size) :
    Calls Tryz.prog 13 #[bv] w (OneT w) := by
  go_enter Tryz.func13, Tryz.ntmps13
  go_wp2_with (fail)
  go_at_call 20
  refine (new_any B bv _ hby).mono ?_
  rintro e w1 ⟨h, rfl, rfl⟩
  go_wp2_with (fail)
  go_at_call 36
  refine (some12 w.heap.size B bv _ (made_cur bv h w) (bytes_alloc hby _) hB).mono ?_
  rintro e w2 ⟨x, hx, rfl, hc2, hg2⟩
  have HE := Lib.hid (And.intro hx (below_gb ((Below.refl _ _).alloc (Nat.le_refl _) _) hg2 (by simp) (Nat.le_refl _)))
  clear hx hc2 hg2
  go_wp2
  go_ret
  exact ⟨_, HE.out.1, rfl, HE.out.2⟩

def OneR (w : World) (e : Ending) (w' : World) : Prop := ∃ (m h t : List UInt8) (v : Value) (l : List Flds.Fld), e = .returned (.agg #[.string ⟨m.toArray⟩, .string ⟨h.toArray⟩, .string ⟨t.toArray⟩, v]) ∧ ReqS m h t l ∧ Flds.Own w' w.heap.size v l ∧ Below w.heap.size w w'
set_option maxHeartbeats 8000000 in
theorem draw_ko (B : Nat) (bv : Value) (w : World) (hby : Bytes w B bv) (hB : B ≤ w.heap.size) :
    Calls Tryz.prog 18 #[bv] w (OneR w) := by
  have hy0 := bytes_alloc hby (.cells #[.string ⟨#[]⟩, .string ⟨#[]⟩, .string ⟨#[]⟩, .slice none 0 0] 26)
  have hbx := box4_new w (.string ⟨#[]⟩) (.string ⟨#[]⟩) (.string ⟨#[]⟩) (.slice none 0 0) 26
  have hbw : Below w.heap.size w (w.alloc (.cells #[.string ⟨#[]⟩, .string ⟨#[]⟩, .string ⟨#[]⟩, .slice none 0 0] 26)) := (Below.refl _ _).alloc (Nat.le_refl _) _
  have hsz : (w.alloc (.cells #[.string ⟨#[]⟩, .string ⟨#[]⟩, .string ⟨#[]⟩, .slice none 0 0] 26)).heap.size = w.heap.size + 1 := by simp
  have HMC := Lib.hid (fun h => made_cur bv h (w.alloc (.cells #[.string ⟨#[]⟩, .string ⟨#[]⟩, .string ⟨#[]⟩, .slice none 0 0] 26)))
  rw [hsz] at HMC
  have HBX := Lib.hid hbx
  have HBW := Lib.hid hbw
  clear hbx hbw
  go_enter Tryz.func18, Tryz.ntmps18
  go_wp2_with (fail)
  go_at_call 20
  refine (new_any B bv _ hy0).mono ?_
  rintro e w1 ⟨h, rfl, rfl⟩
  have hcu := HMC.out h
  have hby1 := bytes_alloc hy0 (.cells #[bv, .int .i64 0, .int .i64 h] 71)
  have HB1 := Lib.hid (HBW.out.alloc (by rw [hsz]; omega) (.cells #[bv, .int .i64 0, .int .i64 h] 71))
  have HX1 := Lib.hid ((Below.heap_alloc _ (.cells #[bv, .int .i64 0, .int .i64 h] 71) _ (show w.heap.size < (w.alloc (.cells #[.string ⟨#[]⟩, .string ⟨#[]⟩, .string ⟨#[]⟩, .slice none 0 0] 26)).heap.size by rw [hsz]; omega)).trans HBX.out)
  have hs1 : ((w.alloc (.cells #[.string ⟨#[]⟩, .string ⟨#[]⟩, .string ⟨#[]⟩, .slice none 0 0] 26)).alloc (.cells #[bv, .int .i64 0, .int .i64 h] 71)).heap.size = w.heap.size + 2 := by simp
  have HS1 := Lib.hid hs1
  clear hy0 HMC HBX HBW hs1 hsz
  go_wp2_with (fail)
  go_at_call 21
  refine (req_any (w.heap.size + 1) B bv _ hcu hby1 (by omega)).mono ?_
  rintro e w2 ⟨m, hh, t, v, l, rfl, hrs, ⟨g, cp, rfl⟩, ho, hc2, hg2⟩
  rw [HS1.out] at ho
  have hy2 := bytes_kept hby1 hg2 (by omega)
  have HG2 := Lib.hid (gb_trans hg2 (World.grownBy_alloc w2 (.cells #[.string ⟨m.toArray⟩, .string ⟨hh.toArray⟩, .string ⟨t.toArray⟩, .slice (some ⟨g, 0, none⟩) l.length cp] 26) _))
  have HR := Lib.hid hrs
  have hgl := ho.lt g rfl
  have hg20 : g < w2.heap.size := hgl.2
  have hg21 : w.heap.size + 2 ≤ g := hgl.1
  have HO2 := Lib.hid (ho.alloc (.cells #[.string ⟨m.toArray⟩, .string ⟨hh.toArray⟩, .string ⟨t.toArray⟩, .slice (some ⟨g, 0, none⟩) l.length cp] 26))
  have hca := cur_alloc hc2 (.cells #[.string ⟨m.toArray⟩, .string ⟨hh.toArray⟩, .string ⟨t.toArray⟩, .slice (some ⟨g, 0, none⟩) l.length cp] 26)
  have hya := bytes_alloc hy2 (.cells #[.string ⟨m.toArray⟩, .string ⟨hh.toArray⟩, .string ⟨t.toArray⟩, .slice (some ⟨g, 0, none⟩) l.length cp] 26)
  have HBY := Lib.hid (box4_new w2 (.string ⟨m.toArray⟩) (.string ⟨hh.toArray⟩) (.string ⟨t.toArray⟩) (.slice (some ⟨g, 0, none⟩) l.length cp) 26)
  clear hcu hby1 hg2 hrs ho hgl hc2 hy2
  go_wp2_with (fail)
  go_at_call 46
  refine (once_any (w.heap.size + 1) B bv 3 _ hca hya (by omega) (by omega)).mono ?_
  rintro e w3 ⟨q, rfl, hc3, hg3⟩
  have hy3 := bytes_kept hya hg3 (by omega)
  have HO3 := Lib.hid (HO2.out.kept hg3 (Or.inr (fun e => by have h := (HO2.out.lt _ e).1; omega)))
  have HG3 := Lib.hid (gb_trans HG2.out hg3)
  have HB3 := Lib.hid (blk_far HBY.out hg3 (by omega))
  clear hca hya HO2 HBY HG2 hg3
  cases q with
  | false =>
    obtain ⟨⟨x0, x1, x2, x3⟩, ⟨f0, f1, f2, f3⟩⟩ := box4 (blk_far HX1.out HG3.out (by omega))
    obtain ⟨⟨y0, y1, y2, y3⟩, _⟩ := box4 HB3.out
    have HBB := Lib.hid (below_gb HB1.out HG3.out HB1.out.size (by omega))
    have HNE : Hid (∀ k, (Value.slice (some ⟨g, 0, none⟩) l.length cp).ownBlock = some k → k ≠ w.heap.size) := Lib.hid (fun k e => by have h := (HO3.out.lt _ e).1; omega)
    have hne2 : w.heap.size ≠ w2.heap.size := by omega
    clear hc3 hy3
    go_wp2
    have HOO := Lib.hid (Flds.own_mono (own_put1 (u := .slice (some ⟨g, 0, none⟩) l.length cp) (o := 3) (own_put1 (u := .string ⟨t.toArray⟩) (o := 2) (own_put1 (u := .string ⟨hh.toArray⟩) (o := 1) (own_put1 (u := .string ⟨m.toArray⟩) (o := 0) HO3.out HNE.out) HNE.out) HNE.out) HNE.out) (B' := w.heap.size) (by omega))
    refine bodyPost_ret (v := .agg #[.string ⟨m.toArray⟩, .string ⟨hh.toArray⟩, .string ⟨t.toArray⟩, .slice (some ⟨g, 0, none⟩) l.length cp]) (by simp [results, Tryz.results18, go_sem, x0, x1, x2, x3]) rfl ⟨m, hh, t, _, l, rfl, HR.out, HOO.out, Below.setCell (Below.setCell (Below.setCell (Below.setCell HBB.out (Nat.le_refl _) _) (Nat.le_refl _) _) (Nat.le_refl _) _) (Nat.le_refl _) _⟩
  | true =>
    go_wp2_with (fail)
    go_at_call 36
    refine (some12 (w.heap.size + 1) B bv w3 hc3 hy3 (by omega)).mono ?_
    rintro e w4 ⟨z, hz, rfl, hc4, hg4⟩
    have HZ := Lib.hid hz
    have HO4 := Lib.hid (HO3.out.kept hg4 (Or.inr (fun e => by have h := (HO3.out.lt _ e).1; omega)))
    have HG4 := Lib.hid (gb_trans HG3.out hg4)
    obtain ⟨⟨x0, x1, x2, x3⟩, ⟨f0, f1, f2, f3⟩⟩ := box4 (blk_far HX1.out HG4.out (by omega))
    obtain ⟨⟨y0, y1, y2, y3⟩, ⟨e0, e1, e2, e3⟩⟩ := box4 (blk_far HB3.out hg4 (by omega))
    have HBB := Lib.hid (Below.setCell (below_gb HB1.out HG4.out HB1.out.size (by omega)) (p := ⟨w2.heap.size, 2, none⟩) (show w.heap.size ≤ w2.heap.size by omega) (.string ⟨z.toArray⟩))
    have HO5 := Lib.hid (own_put1 (g := w2.heap.size) (u := .string ⟨z.toArray⟩) (o := 2) HO4.out (fun k e => by have h9 : some g = some k := e; cases h9; omega))
    have HNE : Hid (∀ k, (Value.slice (some ⟨g, 0, none⟩) l.length cp).ownBlock = some k → k ≠ w.heap.size) := Lib.hid (fun k e => by have h := (HO4.out.lt _ e).1; omega)
    have hne2 : w.heap.size ≠ w2.heap.size := by omega
    clear hz hc4 hg4 HO3 HG3 HB3 hc3 hy3
    go_wp2
    have HOO := Lib.hid (Flds.own_mono (own_put1 (u := .slice (some ⟨g, 0, none⟩) l.length cp) (o := 3) (own_put1 (u := .string ⟨z.toArray⟩) (o := 2) (own_put1 (u := .string ⟨hh.toArray⟩) (o := 1) (own_put1 (u := .string ⟨m.toArray⟩) (o := 0) HO5.out HNE.out) HNE.out) HNE.out) HNE.out) (B' := w.heap.size) (by omega))
    refine bodyPost_ret (v := .agg #[.string ⟨m.toArray⟩, .string ⟨hh.toArray⟩, .string ⟨z.toArray⟩, .slice (some ⟨g, 0, none⟩) l.length cp]) (by simp [results, Tryz.results18, go_sem, x0, x1, x2, x3]) rfl ⟨m, hh, z, _, l, rfl, ⟨HR.out.1, HR.out.2.1, HZ.out, HR.out.2.2.2⟩, HOO.out, Below.setCell (Below.setCell (Below.setCell (Below.setCell HBB.out (Nat.le_refl _) _) (Nat.le_refl _) _) (Nat.le_refl _) _) (Nat.le_refl _) _⟩
end Go.Proofs.YtegaakgmfphcaaaGreatDoor.Cur

/-
  PLAIN FACTS on the bytes of a text, one by one.
-/
namespace Go.Proofs.YtegaakgmfphcaaaGreatDoor.Tx
open Go
set_option linter.unusedVariables false
set_option maxRecDepth 1000000

theorem take_snoc (s : ByteArray) (k : Nat) (h : k < s.size) : s.data.toList.take (k + 1) = s.data.toList.take k ++ [s[k]] := by
  rw [List.take_succ_eq_append_getElem (by simpa using h)]; rfl
theorem drop_cons (s : ByteArray) (k : Nat) (h : k < s.size) : s.data.toList.drop k = s[k] :: s.data.toList.drop (k + 1) := by
  rw [List.drop_eq_getElem_cons (by simpa using h)]; rfl
theorem list_len (s : ByteArray) : s.data.toList.length = s.size := by rw [Array.length_toList]; rfl
theorem eq_nat {c : UInt8} {n : Nat} (hn : n < 256) : ((c.toNat : Int) == (n : Int)) = (c == UInt8.ofNat n) := by
  rw [Bool.eq_iff_iff, beq_iff_eq, beq_iff_eq]
  constructor
  · intro h; exact UInt8.toNat_inj.1 (by simp; omega)
  · intro h; rw [h]; simp; omega
theorem e34 (c : UInt8) : ((c.toNat : Int) == 34) = (c == 34) := eq_nat (n := 34) (by omega)
theorem e92 (c : UInt8) : ((c.toNat : Int) == 92) = (c == 92) := eq_nat (n := 92) (by omega)
theorem e44 (c : UInt8) : ((c.toNat : Int) == 44) = (c == 44) := eq_nat (n := 44) (by omega)

end Go.Proofs.YtegaakgmfphcaaaGreatDoor.Tx

/-
  PLAIN FACTS on targets: the percent signs of a text in their one way.
-/
namespace Go.Proofs.YtegaakgmfphcaaaGreatDoor.Nt
open Go Go.RowKit
set_option linter.unusedVariables false
set_option maxRecDepth 1000000

def hexn (c : UInt8) : Nat := if 48 ≤ c.toNat ∧ c.toNat ≤ 57 then c.toNat - 48 else if 97 ≤ c.toNat ∧ c.toNat ≤ 102 then c.toNat - 87 else if 65 ≤ c.toNat ∧ c.toNat ≤ 70 then c.toNat - 55 else 16
def hexi (c : UInt8) : Int := if hexn c < 16 then (hexn c : Int) else -1
theorem hexi_yes {c : UInt8} (h : hexn c < 16) : hexi c = (hexn c : Int) := if_pos h
theorem hexi_no {c : UInt8} (h : ¬ hexn c < 16) : hexi c = -1 := if_neg h
def plainb (b : UInt8) : Bool := Tx.letc b || (b == 45 || b == 46 || b == 95 || b == 126)
def dig (n : Nat) : UInt8 := UInt8.ofNat (if n < 10 then 48 + n else 55 + n)
def bt (x y : Nat) : UInt8 := UInt8.ofNat (16 * x + y)
theorem bt_nat {x y : Nat} (hx : x < 16) (hy : y < 16) : (bt x y).toNat = 16 * x + y := by
  unfold bt; rw [UInt8.toNat_ofNat']; omega
def code (x y : Nat) : List UInt8 := if plainb (bt x y) = true then [bt x y] else [37, dig x, dig y]
theorem code_yes {x y : Nat} (h : plainb (bt x y) = true) : code x y = [bt x y] := if_pos h
theorem code_no {x y : Nat} (h : plainb (bt x y) = false) : code x y = [37, dig x, dig y] := if_neg (by simp [h])
theorem code_len (x y : Nat) : (code x y).length ≤ 3 := by unfold code; split <;> simp

/-- The text with each percent sign in its one way; none if one is bad. -/
def norm : List UInt8 → Option (List UInt8)
  | [] => some []
  | c :: r =>
    if c = 37 then
      match r with
      | a :: b :: t => if hexn a < 16 ∧ hexn b < 16 then (norm t).map (code (hexn a) (hexn b) ++ ·) else none
      | _ => none
    else (norm r).map (c :: ·)
theorem norm_nil : norm [] = some [] := by rw [norm]
theorem norm_plain {c : UInt8} (r : List UInt8) (h : c ≠ 37) : norm (c :: r) = (norm r).map ([c] ++ ·) := by rw [norm.eq_def]; simp only [if_neg h]; rfl
theorem norm_code {a b : UInt8} (t : List UInt8) (h1 : hexn a < 16) (h2 : hexn b < 16) : norm (37 :: a :: b :: t) = (norm t).map (code (hexn a) (hexn b) ++ ·) := by
  rw [norm.eq_def]; simp only [if_true]; rw [if_pos ⟨h1, h2⟩]
theorem norm_short {r : List UInt8} (h : r.length < 2) : norm (37 :: r) = none := by
  rw [norm.eq_def]; simp only [if_true]
  match r, h with
  | [], _ => rfl
  | [_], _ => rfl
theorem norm_bad {a b : UInt8} (t : List UInt8) (h : ¬ (hexn a < 16 ∧ hexn b < 16)) : norm (37 :: a :: b :: t) = none := by
  rw [norm.eq_def]; simp only [if_true]; rw [if_neg h]
/-- .. as two results. -/
def normp (l : List UInt8) : List UInt8 × Bool := match norm l with | some t => (t, true) | none => ([], false)
theorem normp_some {l t : List UInt8} (h : norm l = some t) : normp l = (t, true) := by unfold normp; rw [h]
theorem normp_none {l : List UInt8} (h : norm l = none) : normp l = ([], false) := by unfold normp; rw [h]
theorem norm_len : ∀ (n : Nat) (l t : List UInt8), l.length ≤ n → norm l = some t → t.length ≤ l.length
  | 0, l, t, hn, h => by
    have : l = [] := List.eq_nil_of_length_eq_zero (by omega)
    subst this; rw [norm_nil] at h; cases h; simp
  | n + 1, [], t, hn, h => by rw [norm_nil] at h; cases h; simp
  | n + 1, c :: r, t, hn, h => by
    by_cases hc : c = 37
    · subst hc
      match r, hn, h with
      | [], hn, h => rw [norm_short (by simp)] at h; cases h
      | [_], hn, h => rw [norm_short (by simp)] at h; cases h
      | a :: b :: r', hn, h =>
        by_cases hx : hexn a < 16 ∧ hexn b < 16
        · rw [norm_code r' hx.1 hx.2] at h
          cases hr : norm r' with
          | none => rw [hr] at h; cases h
          | some q =>
            rw [hr] at h; cases h
            have := norm_len n r' q (by simp at hn; omega) hr
            have := code_len (hexn a) (hexn b)
            simp only [List.length_append, List.length_cons]; omega
        · rw [norm_bad r' hx] at h; cases h
    · rw [norm_plain r hc] at h
      cases hr : norm r with
      | none => rw [hr] at h; cases h
      | some q =>
        rw [hr] at h; cases h
        have := norm_len n r q (by simp at hn; omega) hr
        simp; omega
theorem normp_len (l : List UInt8) : (normp l).1.length ≤ l.length := by
  cases h : norm l with
  | none => rw [normp_none h]; simp
  | some t => rw [normp_some h]; exact norm_len _ l t (Nat.le_refl _) h

/-- What a walk over the bytes of s holds at place k: out is what the bytes before mean. -/
def NR (s : ByteArray) (k : Nat) (out : List UInt8) : Prop := norm s.data.toList = (norm (s.data.toList.drop k)).map (out ++ ·) ∧ out.length ≤ k
theorem nr_start (s : ByteArray) : NR s 0 [] := ⟨by rw [List.drop_zero]; cases norm s.data.toList <;> rfl, Nat.le_refl _⟩
theorem map_map (o : Option (List UInt8)) (a b : List UInt8) : (o.map (b ++ ·)).map (a ++ ·) = o.map ((a ++ b) ++ ·) := by cases o <;> simp
theorem nr_plain {s : ByteArray} {k : Nat} {out : List UInt8} (h : NR s k out) (hk : k < s.size) (hc : s[k] ≠ 37) : NR s (k + 1) (out ++ [s[k]]) := by
  refine ⟨?_, by have := h.2; simp; omega⟩
  rw [h.1, Tx.drop_cons s k hk, norm_plain _ hc, map_map]
theorem nr_code {s : ByteArray} {k : Nat} {out : List UInt8} (h : NR s k out) (hk : k + 2 < s.size) (hc : s[k] = 37) (h1 : hexn s[k + 1] < 16) (h2 : hexn s[k + 2] < 16) : NR s (k + 3) (out ++ code (hexn s[k + 1]) (hexn s[k + 2])) := by
  refine ⟨?_, by have := h.2; have := code_len (hexn s[k + 1]) (hexn s[k + 2]); simp; omega⟩
  rw [h.1, Tx.drop_cons s k (by omega), Tx.drop_cons s (k + 1) (by omega), Tx.drop_cons s (k + 2) hk, hc, norm_code _ h1 h2, map_map]
theorem nr_short {s : ByteArray} {k : Nat} {out : List UInt8} (h : NR s k out) (hk : k < s.size) (hc : s[k] = 37) (h2 : s.size ≤ k + 2) : norm s.data.toList = none := by
  rw [h.1, Tx.drop_cons s k hk, hc, norm_short (by rw [List.length_drop, Tx.list_len]; omega)]; rfl
theorem nr_bad {s : ByteArray} {k : Nat} {out : List UInt8} (h : NR s k out) (hk : k + 2 < s.size) (hc : s[k] = 37) (hx : ¬ (hexn s[k + 1] < 16 ∧ hexn s[k + 2] < 16)) : norm s.data.toList = none := by
  rw [h.1, Tx.drop_cons s k (by omega), Tx.drop_cons s (k + 1) (by omega), Tx.drop_cons s (k + 2) hk, hc, norm_bad _ hx]; rfl
theorem nr_end {s : ByteArray} {k : Nat} {out : List UInt8} (h : NR s k out) (hk : ¬ k < s.size) : norm s.data.toList = some out := by
  rw [h.1, List.drop_of_length_le (by rw [Tx.list_len]; omega), norm_nil]; simp

/-! the sixteen digits -/
def hexs : ByteArray := ⟨#[48, 49, 50, 51, 52, 53, 54, 55, 56, 57, 65, 66, 67, 68, 69, 70]⟩
theorem hex_fin : ∀ r : Fin 16, (⟨#[48, 49, 50, 51, 52, 53, 54, 55, 56, 57, 65, 66, 67, 68, 69, 70]⟩ : ByteArray)[r.1]'(r.2) = dig r.1 := by decide
theorem hex_at (u : Nat) (h : u < (⟨#[48, 49, 50, 51, 52, 53, 54, 55, 56, 57, 65, 66, 67, 68, 69, 70]⟩ : ByteArray).size) :
    (⟨#[48, 49, 50, 51, 52, 53, 54, 55, 56, 57, 65, 66, 67, 68, 69, 70]⟩ : ByteArray)[u]'h = dig u := hex_fin ⟨u, h⟩
def PairEnd (p : List UInt8 × Bool) (w : World) (e : Ending) (w' : World) : Prop := e = .returned (.tuple #[.string ⟨p.1.toArray⟩, .bool p.2]) ∧ Below w.heap.size w w'
theorem ret_p {p q : List UInt8 × Bool} (h : p = q) : Ending.returned (.tuple #[.string ⟨p.1.toArray⟩, .bool p.2]) = .returned (.tuple #[.string ⟨q.1.toArray⟩, .bool q.2]) := by rw [h]
end Go.Proofs.YtegaakgmfphcaaaGreatDoor.Nt
