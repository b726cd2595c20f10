/-
  CONTRACTS AND PLAIN FACTS, several texts in one; each says in its own words what it proves.
-/
import Derived.Test.YtojmkdggkaocdaaGreatDoorPqE
import Derived.Deep.RegionWith
import Derived.Test.YtojmkdggkaocdaaGreatDoorRows
import Derived.WalkKit
import Derived.ProofKit
import Derived.Lib.Hide
import Derived.OpenShut
import Derived.Below
import Derived.Lib.ItoaNum
import Derived.LoopTactic
import Derived.Laws.IdiomStrings
import Derived.Laws.Concat

/-
  CONTRACT of the program's SetField: in new memory, the fields with this value as the only one with this name; nothing that was there before is changed.
-/
namespace Go.Proofs.YtojmkdggkaocdaaGreatDoor.Flds
open Go Go.RowKit
set_option linter.unusedVariables false
set_option maxRecDepth 1000000
set_option maxRecDepth 1000000

def pv (n u : List UInt8) (f : Fld) : Fld := if f.1 = n then (f.1, u) else f
def part2 (n u : List UInt8) (L : List Fld) (k : Nat) : List Fld := (L.take k).map (pv n u) ++ L.drop k
def fin (n u : List UInt8) (l : List Fld) : List Fld := (setl n false l).map (pv n u) ++ (if sn n l = true then [] else [(n, u)])
theorem fin_len (n u : List UInt8) (l : List Fld) : (fin n u l).length ≤ l.length + 1 := by
  have := setl_len n false l
  unfold fin; rw [List.length_append, List.length_map]; split <;> simp <;> omega
theorem part2_zero (n u : List UInt8) (L : List Fld) : part2 n u L 0 = L := by unfold part2; simp
theorem part2_all (n u : List UInt8) (L : List Fld) {k : Nat} (h : L.length ≤ k) : part2 n u L k = L.map (pv n u) := by unfold part2; rw [List.take_of_length_le h, List.drop_eq_nil_of_le h, List.append_nil]
theorem part2_len (n u : List UInt8) (L : List Fld) {k : Nat} (h : k ≤ L.length) : (part2 n u L k).length = L.length := by unfold part2; rw [List.length_append, List.length_map, List.length_take, List.length_drop]; omega
theorem part2_at (n u : List UInt8) {L : List Fld} {k : Nat} (h : k < L.length) : (part2 n u L k).getD k nofld = L.getD k nofld := by
  unfold part2
  rw [List.getD_eq_getElem?_getD, List.getD_eq_getElem?_getD, List.getElem?_append_right (by rw [List.length_map, List.length_take]; omega), List.length_map, List.length_take, List.getElem?_drop]
  congr 2; omega
theorem part2_more (n u : List UInt8) {L : List Fld} {k : Nat} (h : k < L.length) : part2 n u L (k + 1) = (part2 n u L k).set k (pv n u (L.getD k nofld)) := by
  unfold part2
  have hl : ((L.take k).map (pv n u)).length = k := by rw [List.length_map, List.length_take]; omega
  rw [List.set_append_right _ _ (by rw [hl]; exact Nat.le_refl _), hl, Nat.sub_self, List.drop_eq_getElem_cons h, List.set_cons_zero, List.take_succ_eq_append_getElem h, List.map_append, List.append_assoc, show L.getD k nofld = L[k] by simp [List.getD, h]]
  rfl
theorem part2_same (n u : List UInt8) {L : List Fld} {k : Nat} (h : k < L.length) (e : (L.getD k nofld).1 ≠ n) : part2 n u L (k + 1) = part2 n u L k := by
  have e' : L.getD k nofld = L[k] := by simp [List.getD, h]
  unfold part2
  rw [List.drop_eq_getElem_cons h, List.take_succ_eq_append_getElem h, List.map_append, List.append_assoc]
  have : pv n u L[k] = L[k] := by unfold pv; rw [if_neg (by rw [← e']; exact e)]
  simp [this]

set_option maxHeartbeats 2000000 in
theorem impl_set (v : Value) (B : Nat) (l : List Fld) (n u : List UInt8) (w : World) (h : Holds w B v l) (hB : B ≤ w.heap.size) (hl : l.length ≤ 1048576) :
    Calls Tryz.prog 93 #[v, .string ⟨n.toArray⟩, .string ⟨u.toArray⟩] w (FilterEnd (fin n u l) w) := by
  have hmf : ∀ (fn : Fn) (first cap : Array Value) (w : World), (Instr.makeFunc fn first cap).run Tryz.prog w = .ok (.func fn first cap) w := fun _ _ _ _ => rfl
  obtain ⟨i0, hi, hz0, hz1, hz2⟩ := info_parts info_fld
  have hb2 : Below w.heap.size w ((w.alloc (.cells #[.string ⟨n.toArray⟩] 9)).alloc (.cells #[.bool false] 4)) := ((Below.refl _ _).alloc (Nat.le_refl _) _).alloc (by simp) _
  have hcg : ((w.alloc (.cells #[.string ⟨n.toArray⟩] 9)).alloc (.cells #[.bool false] 4)).cell? ⟨w.heap.size, 0, none⟩ = some (.string ⟨n.toArray⟩) := by
    rw [World.cell?_alloc_past _ _ _ (by simp), World.cell?_alloc_at _ _ _ _ rfl]; rfl
  have hch : ((w.alloc (.cells #[.string ⟨n.toArray⟩] 9)).alloc (.cells #[.bool false] 4)).cell? ⟨w.heap.size + 1, 0, none⟩ = some (.bool false) := by
    rw [World.cell?_alloc_at _ _ _ _ (by simp)]; rfl
  have hfh : ((w.alloc (.cells #[.string ⟨n.toArray⟩] 9)).alloc (.cells #[.bool false] 4)).frozen? ⟨w.heap.size + 1, 0, none⟩ = false := World.frozen?_alloc_at _ _ _ _ (by simp)
  have HF := Lib.hid (filter_set w.heap.size w.heap.size (w.heap.size + 1) n v l _ (by omega) (by omega) (by simp; omega) (by simp; omega) (by simp) hcg hch hfh (holds_more (holds_below h (hb2.mono hB)) hB) (by omega))
  have HL := Lib.hid hb2
  clear hb2 hcg hch hfh h
  go_enter Tryz.func93, Tryz.ntmps93
  go_wp2_with (fail)
  go_at_call 105
  refine HF.out.mono ?_
  rintro e w3 ⟨v3, rfl, hown3, cg, ch, hb3⟩
  have HB := Lib.hid (HL.out.trans hb3)
  have HO := Lib.hid (own_mono hown3 (B' := w.heap.size + 2) (by simp))
  have HLen := Lib.hid (setl_len n false l)
  obtain ⟨a, cp, rfl, ha⟩ : ∃ a cap, v3 = .slice a (setl n false l).length cap ∧ (0 < (setl n false l).length → ∃ g, a = some ⟨g, 0, none⟩) := by
    rcases hown3.2 with ⟨rfl, h0⟩ | ⟨g, cap, cur, rfl, _⟩
    · exact ⟨none, 0, by rw [h0], fun h' => by omega⟩
    · exact ⟨_, cap, rfl, fun _ => ⟨g, rfl⟩⟩
  have HA := Lib.hid ha
  have HC := Lib.hid (And.intro cg ch)
  have HE : Hid ((setl n false l).map (pv n u) ++ (if sn n l = true then [] else [(n, u)]) = fin n u l) := Lib.hid rfl
  have hL1 : (setl n false l).length ≤ 1048576 := by have := HLen.out; omega
  clear hb3 hown3 ha cg ch HF HL HLen
  generalize setl n false l = L at HO HA HE hL1
  generalize sn n l = sq at HC HE
  go_wp2
  go_loopw [15] (fun i wr => ∃ k : Nat, k ≤ L.length ∧ i = .int .i64 (k : Int) ∧ wr.ownsRow (w.heap.size + 2) 119 2 (.slice a L.length cp) L.length (fcs (part2 n u L k)) ∧ wr.cell? ⟨w.heap.size, 0, none⟩ = some (.string ⟨n.toArray⟩) ∧ wr.cell? ⟨w.heap.size + 1, 0, none⟩ = some (.bool sq) ∧ Below w.heap.size w wr) (fun i _ => L.length - (intOf i).toNat)
  case atStart => exact ⟨0, Nat.zero_le _, rfl, by rw [part2_zero]; exact HO.out, HC.out.1, HC.out.2, HB.out⟩
  case round =>
    clear HO HC HB
    obtain ⟨k, hk, rfl, hown, cg, ch, hb⟩ := hrel
    by_cases hlt : k < L.length
    · obtain ⟨g, rfl⟩ := HA.out (by omega)
      obtain ⟨c1, c2⟩ := own_cell hown hlt
      rw [part2_at n u hlt] at c1 c2
      have HM := Lib.hid (part2_more n u hlt)
      have HS := Lib.hid (part2_same n u hlt)
      have HG := Lib.hid (hown.lt g rfl)
      have HO : Hid (wr.drew.ownsRow (w.heap.size + 2) 119 2 (.slice (some ⟨g, 0, none⟩) L.length cp) L.length (fcs (part2 n u L k))) := Lib.hid hown
      have hFL := fcs_len (part2 n u L k)
      rw [part2_len n u L hk] at hFL
      have HFL := Lib.hid hFL
      have HAt := Lib.hid (fcs_at (l := part2 n u L k) (j := k) (by rw [part2_len n u L hk]; exact hlt)).1
      rw [part2_at n u hlt] at HAt
      have HB : Hid (Below w.heap.size w wr.drew) := Lib.hid ⟨hb.os, hb.tape, hb.output, hb.size, hb.block⟩
      have HC : Hid (wr.drew.cell? ⟨w.heap.size, 0, none⟩ = some (.string ⟨n.toArray⟩) ∧ wr.drew.cell? ⟨w.heap.size + 1, 0, none⟩ = some (.bool sq)) := Lib.hid ⟨cg, ch⟩
      have fz : wr.drew.frozen? ⟨g, k * 2 + 1, none⟩ = false := HO.out.frozenAt (k * 2 + 1)
      generalize hx : L.getD k nofld = f at c1 c2 HM HS HAt
      clear hx hown hb hFL
      obtain ⟨x, y⟩ := f
      unfold sv at c1 c2
      have e2 : wr.drew.cell? ⟨g, k * 2 + 1, none⟩ = some (.string ⟨y.toArray⟩) := c2
      by_cases hx : x = n
      · subst hx
        have st := HO.out.stored (k * 2 + 1) (sv u)
        have HQ : Hid ((fcs (part2 x u L k)).set (k * 2 + 1) (sv u) = fcs (part2 x u L (k + 1))) := Lib.hid (by
          rw [HM.out, ← fcs_set]
          have hp : pv x u (x, y) = (x, u) := by unfold pv; rw [if_pos rfl]
          rw [hp]
          congr 1
          refine (List.ext_getElem? fun i => ?_)
          by_cases hi : k * 2 = i
          · subst hi
            rw [List.getElem?_set_self (by rw [HFL.out]; omega)]
            exact HAt.out
          · rw [List.getElem?_set_ne hi])
        have HR := Lib.hid (And.intro st.1 (And.intro (st.2.cell HC.out.1 (fun e => by have q : w.heap.size = g := Option.some.inj e; have := HG.out.1; omega)) (And.intro (st.2.cell HC.out.2 (fun e => by have q : w.heap.size + 1 = g := Option.some.inj e; have := HG.out.1; omega)) (HB.out.grown st.2 HB.out.size (fun q e => by cases e; have := HG.out.1; omega)))))
        clear st HM HS
        unfold sv at HR
        go_wp2
        all_goals go_region
        all_goals go_wp2
        all_goals go_roundw
        all_goals first
          | exact ⟨k + 1, by omega, by go_num, by rw [← HQ.out]; exact HR.out.1, HR.out.2.1, HR.out.2.2.1, HR.out.2.2.2⟩
          | (simp [intOf]; omega)
      · have HS' : Hid (part2 n u L (k + 1) = part2 n u L k) := Lib.hid (HS.out hx)
        have hq : (x == n) = false := by simpa using hx
        clear HM HS
        go_wp2
        all_goals go_region
        all_goals go_wp2
        all_goals go_roundw
        all_goals first
          | exact ⟨k + 1, by omega, by go_num, by rw [HS'.out]; exact HO.out, HC.out.1, HC.out.2, HB.out⟩
          | (simp [intOf]; omega)
    · have HP := Lib.hid (part2_all n u L (k := k) (by omega))
      rw [HP.out] at hown
      have HB := Lib.hid hb
      clear hb
      cases sq
      · have hmm : (L.map (pv n u)).length = L.length := List.length_map _
        have hown' : wr.ownsRow w.heap.size 119 2 (.slice a L.length cp) L.length (fcs (L.map (pv n u))) := by
          obtain ⟨q1, q2⟩ := hown
          refine ⟨q1, ?_⟩
          rcases q2 with q2 | ⟨g, cap, cur, e, h1, h2⟩
          · exact Or.inl q2
          · exact Or.inr ⟨g, cap, cur, e, by omega, h2⟩
        have hL := fcs_len (L.map (pv n u))
        rw [hmm] at hL
        clear hown
        go_wp2_with (at_builtin; refine wpList_append_own _ rfl (.tmp 33) (.tmp 37) 28 rfl w.heap.size 119 i0 (.agg #[.string ⟨#[]⟩, .string ⟨#[]⟩]) 2 32 Tryz.underlying28 hi hz0 hz1 hz2 rfl (by decide) (.slice a L.length cp) L.length (fcs (L.map (pv n u))) rfl (hown'.alloc _) ⟨wr.heap.size, 0, none⟩ 1 1 [.string ⟨n.toArray⟩, .string ⟨u.toArray⟩] rfl rfl (news_two _ _ _ _) (two_one (n, u)) (by unfold maxLen; omega) (by omega) (by have := HB.out.size; simp; omega) ?_; intro v1 w4 hown1 hg4 _)
        have R := Lib.hid (And.intro (show Own w4 w.heap.size v1 (fin n u l) by
          rw [← HE.out, if_neg (by decide)]
          show w4.ownsRow _ _ _ _ (L.map (pv n u) ++ [(n, u)]).length (fcs (L.map (pv n u) ++ [(n, u)]))
          rw [List.length_append, hmm, fcs_more]
          exact hown1) ((HB.out.alloc HB.out.size _).grown hg4 (by have := HB.out.size; rw [World.size_alloc]; omega) (fun k e => (hown'.lt k e).1)))
        clear hown1 hg4 hown'
        go_wp2
        go_ret
        exact ⟨_, rfl, R.out.1, R.out.2⟩
      · have R := Lib.hid (And.intro (show Own wr w.heap.size (.slice a L.length cp) (fin n u l) by
          rw [← HE.out, if_pos rfl, List.append_nil]
          have hmm : (L.map (pv n u)).length = L.length := List.length_map _
          show wr.ownsRow _ _ _ _ (L.map (pv n u)).length _
          rw [hmm]
          obtain ⟨q1, q2⟩ := hown
          refine ⟨q1, ?_⟩
          rcases q2 with q2 | ⟨g, cap, cur, e, h1, h2⟩
          · exact Or.inl q2
          · exact Or.inr ⟨g, cap, cur, e, by omega, h2⟩) HB.out)
        clear hown
        go_wp2
        go_ret
        exact ⟨_, rfl, R.out.1, R.out.2⟩
end Go.Proofs.YtojmkdggkaocdaaGreatDoor.Flds

/-
  CONTRACT of the model's SetField: in new memory, the fields with this value as the only one with this name; nothing that was there before is changed.
-/
namespace Go.Proofs.YtojmkdggkaocdaaGreatDoor.Flds
open Go Go.RowKit
set_option linter.unusedVariables false
set_option maxRecDepth 1000000
set_option maxRecDepth 1000000

def setm (n u : List UInt8) (l : List Fld) : List Fld := (setl n false l).map (pv n u)
theorem setm_more (n u : List UInt8) {l : List Fld} {k : Nat} (h : k < l.length) : setm n u (l.take (k + 1)) = setm n u (l.take k) ++ (if (l.getD k nofld).1 = n ∧ sn n (l.take k) = true then [] else [pv n u (l.getD k nofld)]) := by
  unfold setm
  rw [setl_more h, List.map_append]
  split <;> rfl
theorem setm_len (n u : List UInt8) (l : List Fld) : (setm n u l).length ≤ l.length := by unfold setm; rw [List.length_map]; exact setl_len n false l

set_option maxHeartbeats 2000000 in
theorem spec_set (v : Value) (B : Nat) (l : List Fld) (n u : List UInt8) (w : World) (h : Holds w B v l) (hB : B ≤ w.heap.size) (hl : l.length ≤ 1048576) :
    Calls Tryz.prog 84 #[v, .string ⟨n.toArray⟩, .string ⟨u.toArray⟩] w (FilterEnd (fin n u l) w) := by
  obtain ⟨i0, hi, hz0, hz1, hz2⟩ := info_parts info_fld
  obtain ⟨a, cap, rfl, ha⟩ := shape_any h
  have HA := Lib.hid ha
  have HO := Lib.hid (own_lit_nil w)
  clear ha h
  go_enter Tryz.func84, Tryz.ntmps84
  go_wp2
  go_loopw [7, 8, 9] (fun v q i wr => ∃ k : Nat, k ≤ l.length ∧ i = .int .i64 (k : Int) ∧ q = .bool (sn n (l.take k)) ∧ Own wr w.heap.size v (setm n u (l.take k)) ∧ Below w.heap.size w wr) (fun _ _ i _ => l.length - (intOf i).toNat)
  case atStart => exact ⟨0, Nat.zero_le _, rfl, rfl, by rw [List.take_zero]; exact HO.out, (Below.refl _ _).alloc (Nat.le_refl _) _⟩
  case round =>
    clear HO
    obtain ⟨k, hk, rfl, rfl, hown, hb⟩ := hrel
    by_cases hlt : k < l.length
    · obtain ⟨b, off, rfl, hbl, hc⟩ := HA.out (by omega)
      obtain ⟨c1, c2⟩ := at_below hc hb (by omega) k hlt
      have HM := Lib.hid (setm_more n u hlt)
      have HN := Lib.hid (sn_more (n := n) hlt)
      have hL := fcs_len (setm n u (l.take k))
      have HL := Lib.hid (show (setm n u (l.take k)).length ≤ 1048576 by have h1 := setm_len n u (l.take k); have h2 := List.length_take_le' k l; omega)
      generalize hx : l.getD k nofld = f at c1 c2 HM HN
      clear hx hc
      obtain ⟨x, y⟩ := f
      unfold sv at c1 c2
      simp only at HM HN
      generalize sn n (l.take k) = s at HM HN ⊢
      by_cases hx : x = n
      · subst hx
        have hp : pv x u (x, y) = (x, u) := by unfold pv; rw [if_pos rfl]
        rw [hp] at HM
        clear hp
        have HN' : Hid (sn x (l.take (k + 1)) = true) := Lib.hid (by rw [HN.out]; simp)
        cases s
        · rw [if_neg (by simp)] at HM
          go_wp2_with (at_builtin; refine wpList_append_own _ rfl (.tmp 35) (.tmp 39) 28 rfl w.heap.size 119 i0 (.agg #[.string ⟨#[]⟩, .string ⟨#[]⟩]) 2 32 Tryz.underlying28 hi hz0 hz1 hz2 rfl (by decide) _ _ _ rfl (hown.alloc _) ⟨wr.heap.size, 0, none⟩ 1 1 [.string ⟨x.toArray⟩, .string ⟨u.toArray⟩] rfl rfl (news_two _ _ _ _) (two_one (x, u)) (by have := HL.out; unfold maxLen; omega) (by have := HL.out; omega) (by have := hb.size; simp; omega) ?_; intro v1 w1 hown1 hg1 _)
          have R := Lib.hid (push_own (f := (x, u)) hown hb (Nat.le_refl _) hown1 hg1)
          clear hown hown1 hg1 hb
          go_wp2
          go_roundw
          case rel => exact ⟨k + 1, by omega, by go_num, by rw [HN'.out], by rw [HM.out]; exact R.out.1, R.out.2⟩
          case measure => simp [intOf]; omega
        · rw [if_pos (by simp), List.append_nil] at HM
          have HO := Lib.hid (And.intro hown hb)
          clear hown hb
          go_wp2
          go_roundw
          case rel => exact ⟨k + 1, by omega, by go_num, by rw [HN'.out], by rw [HM.out]; exact HO.out.1, HO.out.2⟩
          case measure => simp [intOf]; omega
      · have hq : (x == n) = false := by simpa using hx
        have hp : pv n u (x, y) = (x, y) := by unfold pv; rw [if_neg hx]
        rw [hp, if_neg (fun e => hx e.1)] at HM
        have HN' : Hid (sn n (l.take (k + 1)) = s) := Lib.hid (by rw [HN.out, hq]; simp)
        clear hp HN
        go_wp2_with (at_builtin; refine wpList_append_own _ rfl (.tmp 25) (.tmp 30) 28 rfl w.heap.size 119 i0 (.agg #[.string ⟨#[]⟩, .string ⟨#[]⟩]) 2 32 Tryz.underlying28 hi hz0 hz1 hz2 rfl (by decide) _ _ _ rfl (hown.alloc _) ⟨wr.heap.size, 0, none⟩ 1 1 [.string ⟨x.toArray⟩, .string ⟨y.toArray⟩] rfl rfl (news_two _ _ _ _) (two_one (x, y)) (by have := HL.out; unfold maxLen; omega) (by have := HL.out; omega) (by have := hb.size; simp; omega) ?_; intro v1 w1 hown1 hg1 _)
        have R := Lib.hid (push_own (f := (x, y)) hown hb (Nat.le_refl _) hown1 hg1)
        clear hown hown1 hg1 hb
        go_wp2
        go_roundw
        case rel => exact ⟨k + 1, by omega, by go_num, by rw [HN'.out], by rw [HM.out]; exact R.out.1, R.out.2⟩
        case measure => simp [intOf]; omega
    · have HE : Hid (l.take k = l) := Lib.hid (by rw [List.take_of_length_le (by omega)])
      rw [HE.out] at hown
      rw [HE.out]
      have HF : Hid (setm n u l ++ (if sn n l = true then [] else [(n, u)]) = fin n u l) := Lib.hid rfl
      have hL := fcs_len (setm n u l)
      have HL := Lib.hid (show (setm n u l).length ≤ 1048576 by have h1 := setm_len n u l; omega)
      generalize sn n l = sq at HF ⊢
      cases sq
      · go_wp2_with (at_builtin; refine wpList_append_own _ rfl (.tmp 43) (.tmp 47) 28 rfl w.heap.size 119 i0 (.agg #[.string ⟨#[]⟩, .string ⟨#[]⟩]) 2 32 Tryz.underlying28 hi hz0 hz1 hz2 rfl (by decide) _ _ _ rfl (hown.alloc _) ⟨wr.heap.size, 0, none⟩ 1 1 [.string ⟨n.toArray⟩, .string ⟨u.toArray⟩] rfl rfl (news_two _ _ _ _) (two_one (n, u)) (by have := HL.out; unfold maxLen; omega) (by have := HL.out; omega) (by have := hb.size; simp; omega) ?_; intro v1 w1 hown1 hg1 _)
        have R := Lib.hid (push_own (f := (n, u)) hown hb (Nat.le_refl _) hown1 hg1)
        rw [show setm n u l ++ [(n, u)] = fin n u l from HF.out] at R
        clear hown hown1 hg1 hb
        go_wp2
        go_ret
        exact ⟨_, rfl, R.out.1, R.out.2⟩
      · have R := Lib.hid (And.intro hown hb)
        rw [show setm n u l = fin n u l from (List.append_nil _).symm.trans HF.out] at R
        clear hown hb
        go_wp2
        go_ret
        exact ⟨_, rfl, R.out.1, R.out.2⟩
end Go.Proofs.YtojmkdggkaocdaaGreatDoor.Flds

/-
  PLAIN FACTS OF DECIMAL NUMERALS: the digits of a number as the model writes them, one in front of the other; no word of the program stands here.
-/
namespace Go.Proofs.YtojmkdggkaocdaaGreatDoor.Fmt
open Go Go.RowKit
set_option linter.unusedVariables false
set_option maxRecDepth 1000000

/-- the digits of u; nothing for 0. -/
def dd (u : Nat) : List UInt8 := if u = 0 then [] else Lib.decDigits u
theorem dd_zero : dd 0 = [] := rfl
theorem dd_pos {u : Nat} (h : u ≠ 0) : dd u = Lib.decDigits u := by unfold dd; rw [if_neg h]
theorem dd_step {u : Nat} (h : u ≠ 0) : dd u = dd (u / 10) ++ [UInt8.ofNat (48 + u % 10)] := by
  rw [dd_pos h, Lib.decDigits]
  by_cases hs : u < 10
  · rw [dif_pos hs, show u / 10 = 0 by omega, dd_zero, show u % 10 = u by omega]; rfl
  · rw [dif_neg hs, dd_pos (by omega)]
theorem nDigits_le (k : Nat) : ∀ u : Nat, u < 10 ^ k → Lib.nDigits u ≤ max k 1 := by
  induction k with
  | zero => intro u h; rw [Lib.nDigits_small (by simp at h; omega)]; omega
  | succ k ih =>
    intro u h
    by_cases hs : u < 10
    · rw [Lib.nDigits_small hs]; omega
    · rw [Lib.nDigits_big hs]
      have hk : k ≠ 0 := by rintro rfl; simp at h; omega
      have := ih (u / 10) (by rw [Nat.pow_succ] at h; omega)
      omega
theorem dd_len {u : Nat} (h : u ≤ 9223372036854775808) : (dd u).length ≤ 19 := by
  unfold dd
  split
  · simp
  · rw [Lib.decDigits_length]
    have := nDigits_le 19 u (by omega)
    omega
theorem itoa_zero : Lib.itoa 0 = [48] := by decide +kernel
theorem itoa_pos {n : Int} (h : 0 < n) : Lib.itoa n = dd n.natAbs := by
  unfold Lib.itoa; rw [if_neg (by omega), dd_pos (by omega)]; congr 1; omega
theorem itoa_neg {n : Int} (h : n < 0) : Lib.itoa n = 45 :: dd n.natAbs := by
  unfold Lib.itoa; rw [if_pos h, dd_pos (by omega)]
theorem itoa_len {n : Int} (h0 : -9223372036854775808 ≤ n) (h1 : n ≤ 9223372036854775807) : 1 ≤ (Lib.itoa n).length ∧ (Lib.itoa n).length ≤ 20 := by
  have hl := dd_len (u := n.natAbs) (by omega)
  rcases Int.lt_trichotomy n 0 with h | h | h
  · rw [itoa_neg h]; simp; omega
  · subst h; rw [itoa_zero]; simp
  · rw [itoa_pos h]
    refine ⟨?_, by omega⟩
    rw [dd_step (by omega)]; simp
end Go.Proofs.YtojmkdggkaocdaaGreatDoor.Fmt

/-
  CONTRACT of the model's FormatInt: at every integer of 64 bits it returns the decimal numeral; nothing that was there before is changed.
-/
namespace Go.Proofs.YtojmkdggkaocdaaGreatDoor.Fmt
open Go Go.RowKit
set_option linter.unusedVariables false
set_option maxRecDepth 1000000

theorem ret_str {a b : List UInt8} (h : a = b) : Ending.returned (.string ⟨a.toArray⟩) = .returned (.string ⟨b.toArray⟩) := by rw [h]

/-- A byte in a new block of its own, read back as a string. -/
theorem byteback (wr : World) (z : Int) (h0 : 0 ≤ z) (h1 : z ≤ 255) :
    (convert 149 9 (.slice (some ⟨wr.heap.size, 0, none⟩) 1 1)).run Tryz.prog (wr.alloc (.cells #[.int .u8 z] 5)) = .ok (.string ⟨[UInt8.ofNat z.toNat].toArray⟩) (wr.alloc (.cells #[.int .u8 z] 5)) := by
  have h := run_convert_bytes_back (P := Tryz.prog) (wr.alloc (.cells #[.int .u8 z] 5)) 149 9 5 ⟨wr.heap.size, 0, none⟩ 1 [UInt8.ofNat z.toNat] Tryz.underlying149 Tryz.underlying5 Tryz.underlying9 (fun j hj => by
    have hj0 : j = 0 := by simpa using hj
    subst hj0
    have : ((UInt8.ofNat z.toNat).toNat : Int) = z := by
      rw [UInt8.toNat_ofNat']; omega
    show World.cell? _ ⟨wr.heap.size, 0 + 0, none⟩ = _
    rw [World.cell?_alloc_new]
    simp; omega)
  exact h
theorem addone (c : UInt8) (suf : List UInt8) (h : suf.length ≤ 40) (W : World) :
    (Op.stringOp .add ⟨[c].toArray⟩ ⟨suf.toArray⟩).run Tryz.prog W = .ok (.string ⟨(c :: suf).toArray⟩) W := by
  rw [run_string_add_sum W _ _ (by simp [ByteArray.size]; omega)]; rfl

theorem step (u : Nat) (suf : List UInt8) (hz : u ≠ 0) (wr : World) : ∃ c : UInt8, dd (u / 10) ++ (c :: suf) = dd u ++ suf ∧
    (convert 149 9 (.slice (some ⟨wr.heap.size, 0, none⟩) 1 1)).run Tryz.prog (wr.alloc (.cells #[.int .u8 (48 + (u : Int) % 10)] 5)) = .ok (.string ⟨[c].toArray⟩) (wr.alloc (.cells #[.int .u8 (48 + (u : Int) % 10)] 5)) := by
  refine ⟨_, ?_, byteback wr _ (by omega) (by omega)⟩
  rw [dd_step hz, show (48 + (u : Int) % 10).toNat = 48 + u % 10 by omega, List.append_assoc]; rfl
theorem step_len (u m : Nat) (c : UInt8) (suf : List UInt8) (h : m ≤ 9223372036854775808) (e : dd (u / 10) ++ (c :: suf) = dd m) : (c :: suf).length ≤ 19 := by
  have h19 := dd_len h
  rw [← e, List.length_append] at h19
  omega

set_option maxRecDepth 1000000 in
set_option maxHeartbeats 400000 in
theorem spec_pos (n : Int) (h0 : 0 < n) (h1 : n ≤ 9223372036854775807) (w : World) :
    Calls Tryz.prog 85 #[.int .i64 n] w fun e w' => e = .returned (.string ⟨(Lib.itoa n).toArray⟩) ∧ Below w.heap.size w w' := by
  have hn : ¬ n = 0 := by omega
  have hns : ¬ n < 0 := by omega
  have HI := Lib.hid (itoa_pos h0)
  go_enter Tryz.func85, Tryz.ntmps85
  go_wp2
  go_loopw [3, 4] (fun s x wr => ∃ (u : Nat) (suf : List UInt8), x = .int .i64 u ∧ (u : Int) ≤ n ∧ s = .string ⟨suf.toArray⟩ ∧ suf.length ≤ 19 ∧ dd u ++ suf = dd n.natAbs ∧ Below w.heap.size w wr) (fun _ x _ => (intOf x).toNat)
  case atStart => exact ⟨n.natAbs, [], by rw [Int.natAbs_of_nonneg (by omega)], by omega, rfl, by simp, by simp, Below.refl _ _⟩
  case round =>
    obtain ⟨u, suf, rfl, hu, rfl, hsl, hdd, hb⟩ := hrel
    have HD := Lib.hid hdd
    clear hdd
    by_cases hz : u = 0
    · subst hz
      go_wp2
      go_ret
      refine ⟨ret_str ?_, hb⟩
      rw [HI.out, ← HD.out, dd_zero]; rfl
    · have hz' : 0 < (u : Int) := by omega
      obtain ⟨c, hst, hcv⟩ := step u suf hz wr
      have hadd := addone c suf (by omega)
      have HL := Lib.hid (step_len u n.natAbs c suf (by omega) (hst.trans HD.out))
      have HS := Lib.hid (hst.trans HD.out)
      clear hst
      go_wp2
      go_roundw
      case rel => exact ⟨u / 10, _, by go_num, by omega, rfl, HL.out, HS.out, hb.alloc hb.size _⟩
      case measure => simp [intOf]; omega

theorem neg_mod (u : Nat) : (-(u : Int)).tmod 10 = -((u : Int) % 10) := by
  rw [Int.neg_tmod]; congr 1
theorem neg_div (u : Nat) : (-(u : Int)).tdiv 10 = -((u : Int) / 10) := by
  rw [Int.neg_tdiv]; congr 1

set_option maxRecDepth 1000000 in
set_option maxHeartbeats 800000 in
theorem spec_neg (n : Int) (h0 : -9223372036854775808 ≤ n) (h1 : n < 0) (w : World) :
    Calls Tryz.prog 85 #[.int .i64 n] w fun e w' => e = .returned (.string ⟨(Lib.itoa n).toArray⟩) ∧ Below w.heap.size w w' := by
  have hn : ¬ n = 0 := by omega
  have HI := Lib.hid (itoa_neg h1)
  go_enter Tryz.func85, Tryz.ntmps85
  go_wp2
  go_loopw [3, 4] (fun s x wr => ∃ (u : Nat) (suf : List UInt8), x = .int .i64 (-(u : Int)) ∧ n ≤ -(u : Int) ∧ s = .string ⟨suf.toArray⟩ ∧ suf.length ≤ 19 ∧ dd u ++ suf = dd n.natAbs ∧ Below w.heap.size w wr) (fun _ x _ => (-(intOf x)).toNat)
  case atStart => exact ⟨n.natAbs, [], by rw [show -(n.natAbs : Int) = n by omega], by omega, rfl, by simp, by simp, Below.refl _ _⟩
  case round =>
    obtain ⟨u, suf, rfl, hu, rfl, hsl, hdd, hb⟩ := hrel
    have HD := Lib.hid hdd
    clear hdd
    by_cases hz : u = 0
    · subst hz
      have hadd := addone 45 suf (by omega)
      go_wp2
      go_ret
      refine ⟨ret_str ?_, hb⟩
      rw [HI.out, ← HD.out, dd_zero]; rfl
    · have hz' : 0 < (u : Int) := by omega
      obtain ⟨c, hst, hcv⟩ := step u suf hz wr
      have hadd := addone c suf (by omega)
      have HL := Lib.hid (step_len u n.natAbs c suf (by omega) (hst.trans HD.out))
      have HS := Lib.hid (hst.trans HD.out)
      clear hst
      have htm := neg_mod u
      have htd := neg_div u
      by_cases hm : (u : Int) % 10 = 0
      · rw [hm, show (48 : Int) + 0 = 48 from rfl] at hcv
        go_wp2
        go_roundw
        case rel => exact ⟨u / 10, _, by go_num, by omega, rfl, HL.out, HS.out, hb.alloc hb.size _⟩
        case measure => simp [intOf]; omega
      · go_wp2
        go_roundw
        case rel => exact ⟨u / 10, _, by go_num, by omega, rfl, HL.out, HS.out, hb.alloc hb.size _⟩
        case measure => simp [intOf]; omega

theorem spec_zero (w : World) :
    Calls Tryz.prog 85 #[.int .i64 0] w fun e w' => e = .returned (.string ⟨(Lib.itoa 0).toArray⟩) ∧ Below w.heap.size w w' := by
  have HI := Lib.hid itoa_zero
  go_enter Tryz.func85, Tryz.ntmps85
  go_wp2
  go_ret
  exact ⟨by rw [HI.out]; rfl, Below.refl _ _⟩

/-- The model's FormatInt, at every integer of 64 bits. -/
theorem spec_fmt (n : Int) (h0 : -9223372036854775808 ≤ n) (h1 : n ≤ 9223372036854775807) (w : World) :
    Calls Tryz.prog 85 #[.int .i64 n] w fun e w' => e = .returned (.string ⟨(Lib.itoa n).toArray⟩) ∧ Below w.heap.size w w' := by
  rcases Int.lt_trichotomy n 0 with h | h | h
  · exact spec_neg n h0 h w
  · subst h; exact spec_zero w
  · exact spec_pos n h h1 w
end Go.Proofs.YtojmkdggkaocdaaGreatDoor.Fmt
