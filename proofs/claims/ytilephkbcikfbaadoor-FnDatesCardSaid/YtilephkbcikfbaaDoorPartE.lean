/-
  CONTRACTS AND PLAIN FACTS, several texts in one; each says in its own words what it proves.
-/
import Derived.Test.YtilephkbcikfbaaDoorPartD
import Derived.Deep.AppendLies
import Derived.Deep.RegionHeldLaw
import Derived.RegionTactic
import Derived.Deep.RegionWith
import Derived.Test.YtilephkbcikfbaaDoorRows
import Derived.WalkKit
import Derived.ProofKit
import Derived.Lib.Hide
import Derived.OpenShut
set_option linter.unusedSimpArgs false
set_option linter.unusedVariables false

/-
  CONTRACT of the model's draw l1Bent: it answers some text that is at most one byte longer than the one given, writes into the cursor alone, and leaves it a cursor over the same bytes.
-/
namespace Go.Proofs.YtilephkbcikfbaaDoor.Cur
open Go Go.RowKit
set_option linter.unusedVariables false
set_option maxRecDepth 1000000

def ucs (c : UInt8) : List Value := [Bys.bvl c]
theorem ucs_len : ∀ a, (ucs a).length = 1 := fun _ => rfl
theorem ucs_one : ∀ a, ∀ u ∈ ucs a, u.oneCell' = true := fun a => Bys.bvl_one a
theorem flat_ucs (l : List UInt8) : Rec.flat ucs l = Bys.bvs l := by
  induction l with
  | nil => rfl
  | cons c r ih =>
    show ucs c ++ Rec.flat ucs r = _
    rw [ih]; rfl
theorem uc_at {w : World} {b off : Nat} {l : List UInt8} (h : ∀ j, j < l.length → w.cell? ⟨b, off + j, none⟩ = some (Bys.bvl (l.getD j 0))) : Rec.At 1 ucs 0 w b off l := fun j hj i u hu => by
  unfold ucs at hu
  match i, hu with
  | 0, hu => simp at hu; subst hu; rw [Nat.mul_one, Nat.add_zero]; exact h j hj
theorem u_nil {w : World} {B N : Nat} {T : TypeId} (hB : B ≤ w.heap.size) (hN : w.heap.size = N) : (w.alloc (.cells #[] T)).ownsRow B T 1 (.slice (some ⟨N, 0, none⟩) 0 0) ([] : List UInt8).length (Rec.flat ucs []) := by
  subst hN; exact Rec.own_mono (Rec.own_lit_nil (cs := ucs) _ _) hB
theorem u_ba {a w : World} (h : Below a.heap.size a w) (o : Obj) : Below a.heap.size a (w.alloc o) := h.alloc h.size o
theorem u_bg {a w w' : World} {B n : Nat} {T : TypeId} {v : Value} {xs : List Value} (h : Below a.heap.size a w) (hown : w.ownsRow B T 1 v n xs) (hB : a.heap.size ≤ B) (hg : w.grownBy w' v.ownBlock) : Below a.heap.size a w' :=
  h.grown hg h.size (fun k e => Nat.le_trans hB (hown.lt k e).1)
theorem u_pre {w : World} {g cap m : Nat} {l : List UInt8} (h : Room w g cap l) (hm : m ≤ l.length) : Rec.Holds 1 ucs 0 w w.heap.size (.slice (some ⟨g, 0, none⟩) m cap) (l.take m) := by
  by_cases h0 : m = 0
  · subst h0; exact Or.inl ⟨by simp, _, _, rfl⟩
  · have hl : (l.take m).length = m := by rw [List.length_take]; omega
    refine Or.inr ⟨by omega, g, 0, cap, by rw [hl], h.1.1, by have := h.2.1; omega, uc_at (fun j hj => ?_)⟩
    rw [Nat.zero_add, (h.1.2 j (by omega)).1]; rw [hl] at hj; congr 2; simp [List.getD, hj]
theorem u_suf {w : World} {g cap m : Nat} {l : List UInt8} (h : Room w g cap l) (hm : m ≤ l.length) : Rec.Holds 1 ucs 0 w w.heap.size (.slice (if cap = m then some ⟨g, 0, none⟩ else some ⟨g, m, none⟩) (l.length - m) (cap - m)) (l.drop m) := by
  have hc := h.2.1
  by_cases e : cap = m
  · rw [if_pos e, show l.length - m = 0 by omega]; exact Or.inl ⟨List.drop_eq_nil_of_le (by omega), _, _, rfl⟩
  · rw [if_neg e]
    by_cases h0 : m = l.length
    · subst h0; rw [Nat.sub_self]; exact Or.inl ⟨by simp, _, _, rfl⟩
    · have hl : (l.drop m).length = l.length - m := by rw [List.length_drop]
      refine Or.inr ⟨by omega, g, m, cap - m, by rw [hl], h.1.1, by omega, uc_at (fun j hj => ?_)⟩
      rw [(h.1.2 (m + j) (by omega)).1]; congr 2; simp [List.getD, List.getElem?_drop]
theorem bat_take {w : World} {g : Nat} {l : List UInt8} (k : Nat) (h : Bys.BAt w g l) : Bys.BAt w g (l.take k) := ⟨h.1, fun j hj => by
  rw [List.length_take] at hj
  refine ⟨?_, (h.2 j (by omega)).2⟩
  rw [(h.2 j (by omega)).1]; congr 2; simp [List.getD, show j < k by omega]⟩
theorem cur_same {w w' : World} {c : Nat} {bv : Value} (h : CurAt w c bv) (hb : w'.heap[c]? = w.heap[c]?) : CurAt w' c bv := by
  obtain ⟨i, k, h0, hh⟩ := h
  exact ⟨i, k, h0, by rw [hb]; exact hh⟩
theorem gb_below {a w w' : World} {c : Nat} (h : a.grownBy w (some c)) (hb : Below a.heap.size w w') : a.grownBy w' (some c) :=
  ⟨hb.os.trans h.os, hb.tape.trans h.tape, hb.output.trans h.output, Nat.le_trans h.size hb.size, fun i hi hn => (hb.block i hi).trans (h.block i hi hn)⟩
theorem append_run {P : Program} {w w' : World} {ops : Array Oper} {rest : List Oper} {o : Oper} {a : Act} {Q : Exit → Act → World → Prop} (hgd : o.guard = none) (s x : Operand) (t : TypeId)
    (ho : o.op = .call { callee := .builtin .append, args := #[s, x], argTypes := #[t, t] }) {v1 v2 v' : Value} (hs : a.eval s = v1) (hx : a.eval x = v2)
    (hr : (Builtin.append_ #[t, t] o.type #[v1, v2]).run P w = .ok v' w') (h : wpList P ops Q rest (a.put o.dst v') w') : wpList P ops Q (o :: rest) a w := by
  refine wpList_plain hgd fun K' hK' => ?_
  unfold Oper.wp
  simp [execOp, ho, resolve, invoke, builtin, hs, hx, hr, Result.andThen]
  exact hK' _ _ h

set_option maxHeartbeats 4000000 in
theorem bent_any (c B : Nat) (bv : Value) (s : List UInt8) (w : World) (hcur : CurAt w c bv) (hby : Bytes w B bv) (hB : B ≤ c) (hs : s.length ≤ 1000000) :
    Calls Tryd.prog 28 #[.pointer (some ⟨c, 0, none⟩), .string ⟨s.toArray⟩] w (DrawnS (fun x => x.length ≤ s.length + 1) c bv w) := by
  obtain ⟨i0, hi, hz0, hz1, hz2⟩ := info_parts Bys.info_byte
  obtain ⟨cap, w1, hcv, hr, hb1⟩ := to_room ⟨s.toArray⟩ w
  have hcl := cur_lt hcur
  rw [show (⟨s.toArray⟩ : ByteArray).size = s.length by simp [ByteArray.size]] at hcv
  have hc1 := cur_same hcur (hb1.block c hcl)
  have hy1 := bytes_below hby (hb1.mono (by omega : B ≤ w.heap.size))
  have hg1 : w.grownBy w1 (some c) := gb_below (World.grownBy.refl _ _) hb1
  have HR1 : Hid (Room w1 w.heap.size cap s) := Lib.hid hr
  have HB1 := Lib.hid hb1
  clear hr hcur hby hb1
  go_enter Tryd.func28, Tryd.ntmps28
  go_wp2_with (fail)
  go_at_call 23
  refine (below_any c B bv 7 _ hc1 hy1 hB (by omega)).mono ?_
  rintro e w2 ⟨n, hn, rfl, hc2, hg2⟩
  have hy2 := bytes_kept hy1 hg2 hB
  have HR2 := Lib.hid (room_gb HR1.out hg2 (by omega))
  have HG2 := Lib.hid (gb_trans hg1 hg2)
  obtain ⟨hn0, hn1⟩ := hn
  have hn7 : n < 7 := by omega
  clear hn1 hc1 hy1 hg1 hg2 hcv HR1
  have hbk0 := Bys.back w2 w.heap.size cap s HR2.out.1
  by_cases e0 : n = 0
  · subst e0
    by_cases h0 : 0 < s.length
    · have hsi : (0 : Int) < (s.length : Int) := by omega
      clear hbk0
      go_wp2_with (fail)
      go_at_call 23
      refine (below_any c B bv (s.length : Int) _ hc2 hy2 hB (by omega)).mono ?_
      rintro e w3 ⟨x, hx, rfl, hc3, hg3⟩
      obtain ⟨j, rfl, hj⟩ : ∃ j : Nat, x = (j : Int) ∧ j < s.length := ⟨x.toNat, by have := hx.1; omega, by have := hx.1; have := hx.2; omega⟩
      have hy3 := bytes_kept hy2 hg3 hB
      clear hx
      go_wp2_with (fail)
      go_at_call 23
      refine (below_any c B bv 256 _ hc3 hy3 hB (by omega)).mono ?_
      rintro e w4 ⟨y, hy, rfl, hc4, hg4⟩
      obtain ⟨u, rfl⟩ : ∃ u : UInt8, y = (u.toNat : Int) := ⟨UInt8.ofNat y.toNat, by have := hy.1; have := hy.2; simp [UInt8.toNat_ofNat']; omega⟩
      have hu0 : (0 : Int) ≤ (u.toNat : Int) := by omega
      have hu1 : (u.toNat : Int) ≤ 255 := by have := u.toNat_lt; omega
      have hg24 := gb_trans hg3 hg4
      have hR4 := room_gb HR2.out hg24 (by omega)
      have hcell := (hR4.1.2 j hj).1
      have hfz := (hR4.1.2 j hj).2
      have hji : (j : Int) < (s.length : Int) := by omega
      have hbk := Bys.back (w4.setCell ⟨w.heap.size, j, none⟩ (Bys.bvl u)) w.heap.size cap (s.set j u) (set_room u hR4 hj)
      rw [List.length_set] at hbk
      have HE := Lib.hid (And.intro (show (s.set j u).length ≤ s.length + 1 by rw [List.length_set]; omega) (And.intro (cur_same (w' := w4.setCell ⟨w.heap.size, j, none⟩ (Bys.bvl u)) hc4 (Below.heap_setCell _ _ _ _ (by show c ≠ w.heap.size; omega))) (gb_below (gb_trans HG2.out hg24) (show Below w.heap.size w4 (w4.setCell ⟨w.heap.size, j, none⟩ (Bys.bvl u)) from Bys.below_set _ (Below.refl _ _) (Nat.le_refl _)))))
      unfold Bys.bvl at hbk hcell HE
      clear hy hc2 hc3 hc4 hy2 hy3 hg3 hg4 hg24 hR4
      go_wp2
      go_ret
      exact ⟨_, HE.out.1, rfl, HE.out.2.1, HE.out.2.2⟩
    · have hsi : ¬ (0 : Int) < (s.length : Int) := by omega
      have HC := Lib.hid hc2
      clear hc2 hy2
      go_wp2
      go_ret
      exact ⟨s, by omega, rfl, HC.out, HG2.out⟩
  by_cases e1 : n = 1
  · subst e1
    clear hbk0
    go_wp2_with (fail)
    go_at_call 23
    refine (below_any c B bv ((s.length : Int) + 1) _ hc2 hy2 hB (by omega)).mono ?_
    rintro e w3 ⟨x, hx, rfl, hc3, hg3⟩
    obtain ⟨j, rfl, hj⟩ : ∃ j : Nat, x = (j : Int) ∧ j ≤ s.length := ⟨x.toNat, by have := hx.1; omega, by have := hx.1; have := hx.2; omega⟩
    have hR3 := room_gb HR2.out hg3 (by omega)
    have hjc : j ≤ cap := Nat.le_trans hj hR3.2.1
    have hjci : (j : Int) ≤ (cap : Int) := by omega
    have hj0 : (0 : Int) ≤ (j : Int) := by omega
    have hbk := Bys.back w3 w.heap.size cap (s.take j) (bat_take j hR3.1)
    rw [List.length_take, Nat.min_eq_left hj] at hbk
    have HE := Lib.hid (And.intro (show (s.take j).length ≤ s.length + 1 by rw [List.length_take]; omega) (And.intro hc3 (gb_trans HG2.out hg3)))
    clear hx hc2 hc3 hy2 hg3 hR3
    go_wp2
    go_ret
    exact ⟨_, HE.out.1, rfl, HE.out.2.1, HE.out.2.2⟩
  by_cases e2 : n = 2
  · subst e2
    clear hbk0
    have H := int_lits c B bv [0, 32, 44, 34, 255] 5 rfl w2 hc2 hy2 hB (by decide) (by decide) 3
    go_wp2_with (fail)
    go_at_call 22
    refine H.mono ?_
    rintro e w3 ⟨y, hy, rfl, hc3, hg3⟩
    have hyb : 0 ≤ y ∧ y ≤ 255 := by simp at hy; omega
    obtain ⟨u, rfl⟩ : ∃ u : UInt8, y = (u.toNat : Int) := ⟨UInt8.ofNat y.toNat, by have := hyb.1; have := hyb.2; simp [UInt8.toNat_ofNat']; omega⟩
    have hu0 : (0 : Int) ≤ (u.toNat : Int) := by omega
    have hu1 : (u.toNat : Int) ≤ 255 := hyb.2
    have hR3 := room_gb HR2.out hg3 (by omega)
    obtain ⟨g', cap', w5, hap, hat, hbl⟩ := push_room u hR3 (by omega)
    have hbk := Bys.back w5 g' cap' (s ++ [u]) hat
    rw [List.length_append, show [u].length = 1 from rfl] at hbk
    have HL : Hid ((s ++ [u]).length ≤ s.length + 1) := Lib.hid (by rw [List.length_append]; simp)
    have hb5 := hbl w.heap.size w3 (Below.refl _ _) (Nat.le_refl _) (gb_trans HG2.out hg3).size
    have hb6 := hbl (w.heap.size) w3 (Below.refl _ _) (Nat.le_refl _) (gb_trans HG2.out hg3).size
    have HE := Lib.hid (And.intro (cur_same hc3 (hb6.block c hcl)) (gb_below (gb_trans HG2.out hg3) hb5))
    unfold Bys.bvl at hap
    generalize s ++ [u] = r at hbk HL
    clear H hy hyb hc2 hc3 hy2 hg3 hR3 hat hbl hb5 hb6
    go_wp2_with (at_builtin; refine append_run rfl (.tmp 36) (.tmp 41) _ rfl rfl rfl hap ?_)
    go_ret
    exact ⟨_, HL.out, rfl, HE.out.1, HE.out.2⟩
  by_cases e3 : n = 3
  · subst e3
    by_cases h0 : 0 < s.length
    · have hsi : (0 : Int) < (s.length : Int) := by omega
      clear hbk0
      go_wp2_with (fail)
      go_at_call 23
      refine (below_any c B bv (s.length : Int) _ hc2 hy2 hB (by omega)).mono ?_
      rintro e w3 ⟨x, hx, rfl, hc3, hg3⟩
      obtain ⟨j, rfl, hj⟩ : ∃ j : Nat, x = (j : Int) ∧ j < s.length := ⟨x.toNat, by have := hx.1; omega, by have := hx.1; have := hx.2; omega⟩
      have hR3 := room_gb HR2.out hg3 (by omega)
      have hjc : j ≤ cap := Nat.le_trans (Nat.le_of_lt hj) hR3.2.1
      have hjc1 : j + 1 ≤ cap := Nat.le_trans hj hR3.2.1
      have HPRE : Hid (∀ u, Below w3.heap.size w3 u → Rec.Holds 1 ucs 0 u w3.heap.size (.slice (some ⟨w.heap.size, 0, none⟩) j cap) (s.take j)) := Lib.hid (fun u hu => Rec.holds_below (u_pre hR3 (Nat.le_of_lt hj)) hu)
      have HSUF : Hid (∀ u, Below w3.heap.size w3 u → Rec.Holds 1 ucs 0 u w3.heap.size (.slice (if cap = j + 1 then some ⟨w.heap.size, 0, none⟩ else some ⟨w.heap.size, j + 1, none⟩) (s.length - (j + 1)) (cap - (j + 1))) (s.drop (j + 1))) := Lib.hid (fun u hu => Rec.holds_below (u_suf hR3 hj) hu)
      have HBD : Hid (Below w3.heap.size w3 w3.drew) := Lib.hid (Below.refl _ _).drew
      have HSD : Hid (Hid (Below w3.heap.size w3 w3.drew)) := Lib.hid HBD
      have SA : Hid (∀ (u : World) (o : Obj), Hid (Below w3.heap.size w3 u) → Hid (Below w3.heap.size w3 (u.alloc o))) := Lib.hid (fun u o hb => Lib.hid (u_ba hb.out o))
      have HBA : Hid (Below w3.heap.size w3 (w3.alloc (.cells #[] 5)).drew) := Lib.hid (u_ba (Below.refl _ _) _).drew
      have HO3 : Hid ((w3.alloc (.cells #[] 5)).drew.ownsRow w3.heap.size 5 1 (.slice (some ⟨w3.heap.size, 0, none⟩) 0 0) ([] : List UInt8).length (Rec.flat ucs [])) := Lib.hid (u_nil (w := w3) (Nat.le_refl _) rfl)
      have HC3 := Lib.hid hc3
      have HG3 := Lib.hid (gb_trans HG2.out hg3)
      have hj0 : (0 : Int) ≤ (j : Int) := by omega
      have hjt : ((j : Int)).toNat = j := by omega
      have hji : (j : Int) < (s.length : Int) := by omega
      have hjci : (j : Int) ≤ (cap : Int) := by omega
      have hjs : (j : Int) + 1 ≤ (s.length : Int) := by omega
      have hj10 : (0 : Int) ≤ (j : Int) + 1 := by omega
      have hj11 : ((j : Int) + 1).toNat = j + 1 := by omega
      have hj12 : ¬ (j : Int) + 1 < 0 := by omega
      have hj13 : ¬ (s.length : Int) < (j : Int) + 1 := by omega
      have hw : IntKind.i64.wrap ((j : Int) + 1) = (j : Int) + 1 := IntWalk.i64_in _ (by omega)
      have hjc2 : (j : Int) + 1 ≤ (cap : Int) := by omega
      have hslc : s.length ≤ cap := HR2.out.2.1
      have hslci : (s.length : Int) ≤ (cap : Int) := by omega
      clear hx hc2 hc3 hy2 hg3 hR3
      go_wp2
      go_region_held_law (fun u => Hid (Below w3.heap.size w3 u))
        (first | exact HSD.out | exact Lib.hid (u_ba HBD.out _) | exact HB5 | exact HB3 | go_keep)
        (first
          | (refine Rec.step_holds ucs_len ucs_one (by rfl) (.tmp 52) (.tmp 55) 22 5 (by rfl) Tryd.underlying22 hi hz0 hz1 hz2 (by rfl) (by decide) (by rfl) (by rfl) HO3.out (HPRE.out _ HBA.out) (by simp only [List.length_take, List.length_nil, List.length_append, List.length_cons, List.length_drop]; unfold maxLen; omega) (by simp only [List.length_take, List.length_nil, List.length_append, List.length_cons, List.length_drop]; omega) HBA.out.size ?_; intro v1 w4 hown1 hgrow1; have HB3 : Hid (Below w3.heap.size w3 w4) := Lib.hid (u_bg HBA.out HO3.out (Nat.le_refl _) hgrow1))
          | (refine Rec.step_holds ucs_len ucs_one (by rfl) (.tmp 56) (.tmp 60) 22 5 (by rfl) Tryd.underlying22 hi hz0 hz1 hz2 (by rfl) (by decide) (by rfl) (by rfl) hown1 (HSUF.out _ HB3.out) (by simp only [List.length_take, List.length_nil, List.length_append, List.length_cons, List.length_drop]; unfold maxLen; omega) (by simp only [List.length_take, List.length_nil, List.length_append, List.length_cons, List.length_drop]; omega) HB3.out.size ?_; intro v2 w5 hown2 hgrow2; have HB5 : Hid (Below w3.heap.size w3 w5) := Lib.hid (u_bg HB3.out hown1 (Nat.le_refl _) hgrow2))
          | fail)
      all_goals (
        rw [flat_ucs] at hown2
        have hbk := Bys.own_str hown2
        have HL : Hid (([] ++ s.take j ++ s.drop (j + 1)).length ≤ s.length + 1) := Lib.hid (by simp only [List.length_take, List.length_nil, List.length_append, List.length_drop]; omega)
        have HE := Lib.hid (And.intro (cur_same HC3.out (HB5.out.block c (cur_lt HC3.out))) (gb_below HG3.out (HB5.out.mono HG3.out.size)))
        generalize [] ++ s.take j ++ s.drop (j + 1) = r at hbk HL
        clear hown1 hgrow1 HB3 hown2 hgrow2 HB5 HPRE HSUF
        go_wp2
        all_goals go_ret
        all_goals exact ⟨_, HL.out, rfl, HE.out.1, HE.out.2⟩)
    · have hsi : ¬ (0 : Int) < (s.length : Int) := by omega
      have HC := Lib.hid hc2
      clear hc2 hy2
      go_wp2
      go_ret
      exact ⟨s, by omega, rfl, HC.out, HG2.out⟩
  · have HC := Lib.hid hc2
    clear hc2 hy2
    go_wp2
    go_ret
    exact ⟨s, by omega, rfl, HC.out, HG2.out⟩
end Go.Proofs.YtilephkbcikfbaaDoor.Cur

/-
  PLAIN FACTS OF NUMBERS that the contracts of chapter 1 lean on: remainder and quotient rounded down, and Go's own. No word of the program stands here.
-/
namespace Go.Proofs.YtilephkbcikfbaaDoor.NumDiv
open Go Go.RowKit
set_option linter.unusedVariables false
set_option maxRecDepth 1000000

/-- Go's remainder, made not negative; 0 for a divisor out of range. -/
def md (n m : Int) : Int := if 1 ≤ m ∧ m ≤ 1000000000000 then n % m else 0
/-- the quotient rounded down; 0 for a divisor out of range. -/
def fd (n m : Int) : Int := if 1 ≤ m ∧ m ≤ 1000000000000 then n / m else 0

theorem md_out {n m : Int} (h : m < 1 ∨ 1000000000000 < m) : md n m = 0 := by unfold md; rw [if_neg (by omega)]
theorem fd_out {n m : Int} (h : m < 1 ∨ 1000000000000 < m) : fd n m = 0 := by unfold fd; rw [if_neg (by omega)]
theorem md_in {n m : Int} (h : 1 ≤ m) (h2 : m ≤ 1000000000000) : md n m = n % m := by unfold md; rw [if_pos ⟨h, h2⟩]
theorem fd_in {n m : Int} (h : 1 ≤ m) (h2 : m ≤ 1000000000000) : fd n m = n / m := by unfold fd; rw [if_pos ⟨h, h2⟩]

theorem tmod_bd (n m : Int) (h : 1 ≤ m) : -m < n.tmod m ∧ n.tmod m < m := by
  constructor
  · exact Int.lt_tmod_of_pos n (by omega)
  · exact Int.tmod_lt_of_pos n (by omega)
theorem tmod_split (n m : Int) (h : 1 ≤ m) : n.tmod m = n % m ∨ (0 < n % m ∧ n.tmod m = n % m - m) := by
  have e := Int.tmod_eq_emod (a := n) (b := m)
  have p := Int.emod_nonneg n (show m ≠ 0 by omega)
  by_cases c : 0 ≤ n ∨ m ∣ n
  · rw [if_pos c] at e; left; rw [e]; simp
  · rw [if_neg c] at e
    right
    have hz : n % m ≠ 0 := fun z => c (Or.inr (Int.dvd_of_emod_eq_zero z))
    exact ⟨by omega, by omega⟩
theorem tmod_neg_emod {n m : Int} (h : 1 ≤ m) (hr : n.tmod m < 0) : n.tmod m + m = n % m := by
  have p := Int.emod_nonneg n (show m ≠ 0 by omega)
  rcases tmod_split n m h with e | ⟨_, e⟩ <;> omega
theorem tmod_pos_emod {n m : Int} (h : 1 ≤ m) (hr : 0 ≤ n.tmod m) : n.tmod m = n % m := by
  have p := Int.emod_lt_of_pos n (show 0 < m by omega)
  rcases tmod_split n m h with e | ⟨_, e⟩ <;> omega
theorem tdiv_neg {n m : Int} (h : 1 ≤ m) (hr : n.tmod m < 0) : n.tdiv m - 1 = n / m := by
  have e := tmod_neg_emod h hr
  have a := Int.mul_tdiv_add_tmod n m
  have b := Int.mul_ediv_add_emod n m
  have : m * (n.tdiv m - 1) = m * (n / m) := by rw [Int.mul_sub]; omega
  exact Int.eq_of_mul_eq_mul_left (show m ≠ 0 by omega) this
theorem tdiv_pos {n m : Int} (h : 1 ≤ m) (hr : 0 ≤ n.tmod m) : n.tdiv m = n / m := by
  have e := tmod_pos_emod h hr
  have a := Int.mul_tdiv_add_tmod n m
  have b := Int.mul_ediv_add_emod n m
  have : m * (n.tdiv m) = m * (n / m) := by omega
  exact Int.eq_of_mul_eq_mul_left (show m ≠ 0 by omega) this

theorem q_bd' (n m : Int) (h : 1 ≤ m) (a : -9223372036854775808 ≤ n) (b : n ≤ 9223372036854775807) : -9223372036854775808 ≤ n / m ∧ n / m ≤ 9223372036854775807 := by
  constructor
  · refine Int.le_ediv_of_mul_le (by omega) ?_
    have : (-9223372036854775808 : Int) * m ≤ -9223372036854775808 * 1 := Int.mul_le_mul_of_nonpos_left (by omega) h
    omega
  · by_cases z : 0 ≤ n
    · have := Int.ediv_le_self m z; omega
    · have := Int.ediv_neg_of_neg_of_pos (show n < 0 by omega) (show 0 < m by omega); omega
theorem q_bd (n m : Int) (h : 1 ≤ m) (a : -9223372036854775808 ≤ n) (b : n ≤ 9223372036854775807) : -9223372036854775808 ≤ n.tdiv m ∧ n.tdiv m ≤ 9223372036854775807 := by
  have c := q_bd' n m h a b
  by_cases hr : n.tmod m < 0
  · have d := tdiv_neg h hr
    have e : n < 0 := by
      by_cases z : 0 ≤ n
      · have := Int.tmod_nonneg m z; omega
      · omega
    have := Int.ediv_neg_of_neg_of_pos e (show 0 < m by omega)
    omega
  · rw [tdiv_pos h (by omega)]; exact c
theorem ret_int {k : IntKind} {a b : Int} (h : a = b) : Ending.returned (.int k a) = .returned (.int k b) := by rw [h]
end Go.Proofs.YtilephkbcikfbaaDoor.NumDiv

/-
  PLAIN FACTS on leap years.
-/
namespace Go.Proofs.YtilephkbcikfbaaDoor.Dt
open Go
set_option linter.unusedVariables false
set_option maxRecDepth 1000000

def lpB (y : Int) : Bool := y % 4 == 0 && (y % 100 != 0 || y % 400 == 0)
theorem lp_no {y : Int} (h : y % 4 ≠ 0) : lpB y = false := by unfold lpB; simp [h]
theorem lp_yes {y : Int} (h : y % 4 = 0) (h2 : y % 100 ≠ 0) : lpB y = true := by unfold lpB; simp [h, h2]
theorem lp_cent {y : Int} (h2 : y % 100 = 0) : lpB y = (y % 400 == 0) := by unfold lpB; simp [h2]; intro h; omega
theorem ret_bool {a b : Bool} (h : a = b) : Ending.returned (.bool a) = .returned (.bool b) := by rw [h]
theorem b_yes {a b : Int} (h : a = b) : (a == b) = true := by simp [h]
theorem b_no {a b : Int} (h : a ≠ b) : (a == b) = false := by simp [h]
theorem n_yes {a b : Int} (h : a ≠ b) : (a != b) = true := by simp [h]
theorem n_no {a b : Int} (h : a = b) : (a != b) = false := by simp [h]
end Go.Proofs.YtilephkbcikfbaaDoor.Dt
