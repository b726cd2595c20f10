/-
  CONTRACT of the program's SetField: in new memory, the fields with this value as the only one with this name; nothing that was there before is changed.
-/
import Derived.Test.YtobhdfkhfmpdlaaDoorFldSet
import Derived.Deep.RegionWith
namespace Go.Proofs.YtobhdfkhfmpdlaaDoor.Flds
open Go Go.RowKit
set_option linter.unusedVariables false
set_option maxRecDepth 1000000
set_option maxRecDepth 1000000

def pv (n u : List UInt8) (f : Fld) : Fld := if f.1 = n then (f.1, u) else f
def part2 (n u : List UInt8) (L : List Fld) (k : Nat) : List Fld := (L.take k).map (pv n u) ++ L.drop k
def fin (n u : List UInt8) (l : List Fld) : List Fld := (setl n false l).map (pv n u) ++ (if sn n l = true then [] else [(n, u)])
theorem fin_len (n u : List UInt8) (l : List Fld) : (fin n u l).length ≤ l.length + 1 := by
  have := setl_len n false l
  unfold fin; rw [List.length_append, List.length_map]; split <;> simp <;> omega
theorem part2_zero (n u : List UInt8) (L : List Fld) : part2 n u L 0 = L := by unfold part2; simp
theorem part2_all (n u : List UInt8) (L : List Fld) {k : Nat} (h : L.length ≤ k) : part2 n u L k = L.map (pv n u) := by unfold part2; rw [List.take_of_length_le h, List.drop_eq_nil_of_le h, List.append_nil]
theorem part2_len (n u : List UInt8) (L : List Fld) {k : Nat} (h : k ≤ L.length) : (part2 n u L k).length = L.length := by unfold part2; rw [List.length_append, List.length_map, List.length_take, List.length_drop]; omega
theorem part2_at (n u : List UInt8) {L : List Fld} {k : Nat} (h : k < L.length) : (part2 n u L k).getD k nofld = L.getD k nofld := by
  unfold part2
  rw [List.getD_eq_getElem?_getD, List.getD_eq_getElem?_getD, List.getElem?_append_right (by rw [List.length_map, List.length_take]; omega), List.length_map, List.length_take, List.getElem?_drop]
  congr 2; omega
theorem part2_more (n u : List UInt8) {L : List Fld} {k : Nat} (h : k < L.length) : part2 n u L (k + 1) = (part2 n u L k).set k (pv n u (L.getD k nofld)) := by
  unfold part2
  have hl : ((L.take k).map (pv n u)).length = k := by rw [List.length_map, List.length_take]; omega
  rw [List.set_append_right _ _ (by rw [hl]; exact Nat.le_refl _), hl, Nat.sub_self, List.drop_eq_getElem_cons h, List.set_cons_zero, List.take_succ_eq_append_getElem h, List.map_append, List.append_assoc, show L.getD k nofld = L[k] by simp [List.getD, h]]
  rfl
theorem part2_same (n u : List UInt8) {L : List Fld} {k : Nat} (h : k < L.length) (e : (L.getD k nofld).1 ≠ n) : part2 n u L (k + 1) = part2 n u L k := by
  have e' : L.getD k nofld = L[k] := by simp [List.getD, h]
  unfold part2
  rw [List.drop_eq_getElem_cons h, List.take_succ_eq_append_getElem h, List.map_append, List.append_assoc]
  have : pv n u L[k] = L[k] := by unfold pv; rw [if_neg (by rw [← e']; exact e)]
  simp [this]

set_option maxHeartbeats 2000000 in
theorem impl_set (v : Value) (B : Nat) (l : List Fld) (n u : List UInt8) (w : World) (h : Holds w B v l) (hB : B ≤ w.heap.size) (hl : l.length ≤ 1048576) :
    Calls Tryd.prog 14 #[v, .string ⟨n.toArray⟩, .string ⟨u.toArray⟩] w (FilterEnd (fin n u l) w) := by
  have hmf : ∀ (fn : Fn) (first cap : Array Value) (w : World), (Instr.makeFunc fn first cap).run Tryd.prog w = .ok (.func fn first cap) w := fun _ _ _ _ => rfl
  obtain ⟨i0, hi, hz0, hz1, hz2⟩ := info_parts info_fld
  have hb2 : Below w.heap.size w ((w.alloc (.cells #[.string ⟨n.toArray⟩] 9)).alloc (.cells #[.bool false] 4)) := ((Below.refl _ _).alloc (Nat.le_refl _) _).alloc (by simp) _
  have hcg : ((w.alloc (.cells #[.string ⟨n.toArray⟩] 9)).alloc (.cells #[.bool false] 4)).cell? ⟨w.heap.size, 0, none⟩ = some (.string ⟨n.toArray⟩) := by
    rw [World.cell?_alloc_past _ _ _ (by simp), World.cell?_alloc_at _ _ _ _ rfl]; rfl
  have hch : ((w.alloc (.cells #[.string ⟨n.toArray⟩] 9)).alloc (.cells #[.bool false] 4)).cell? ⟨w.heap.size + 1, 0, none⟩ = some (.bool false) := by
    rw [World.cell?_alloc_at _ _ _ _ (by simp)]; rfl
  have hfh : ((w.alloc (.cells #[.string ⟨n.toArray⟩] 9)).alloc (.cells #[.bool false] 4)).frozen? ⟨w.heap.size + 1, 0, none⟩ = false := World.frozen?_alloc_at _ _ _ _ (by simp)
  have HF := Lib.hid (filter_set w.heap.size w.heap.size (w.heap.size + 1) n v l _ (by omega) (by omega) (by simp; omega) (by simp; omega) (by simp) hcg hch hfh (holds_more (holds_below h (hb2.mono hB)) hB) (by omega))
  have HL := Lib.hid hb2
  clear hb2 hcg hch hfh h
  go_enter Tryd.func14, Tryd.ntmps14
  go_wp2_with (fail)
  go_at_call 43
  refine HF.out.mono ?_
  rintro e w3 ⟨v3, rfl, hown3, cg, ch, hb3⟩
  have HB := Lib.hid (HL.out.trans hb3)
  have HO := Lib.hid (own_mono hown3 (B' := w.heap.size + 2) (by simp))
  have HLen := Lib.hid (setl_len n false l)
  obtain ⟨a, cp, rfl, ha⟩ : ∃ a cap, v3 = .slice a (setl n false l).length cap ∧ (0 < (setl n false l).length → ∃ g, a = some ⟨g, 0, none⟩) := by
    rcases hown3.2 with ⟨rfl, h0⟩ | ⟨g, cap, cur, rfl, _⟩
    · exact ⟨none, 0, by rw [h0], fun h' => by omega⟩
    · exact ⟨_, cap, rfl, fun _ => ⟨g, rfl⟩⟩
  have HA := Lib.hid ha
  have HC := Lib.hid (And.intro cg ch)
  have HE : Hid ((setl n false l).map (pv n u) ++ (if sn n l = true then [] else [(n, u)]) = fin n u l) := Lib.hid rfl
  have hL1 : (setl n false l).length ≤ 1048576 := by have := HLen.out; omega
  clear hb3 hown3 ha cg ch HF HL HLen
  generalize setl n false l = L at HO HA HE hL1
  generalize sn n l = sq at HC HE
  go_wp2
  go_loopw [15] (fun i wr => ∃ k : Nat, k ≤ L.length ∧ i = .int .i64 (k : Int) ∧ wr.ownsRow (w.heap.size + 2) 46 2 (.slice a L.length cp) L.length (fcs (part2 n u L k)) ∧ wr.cell? ⟨w.heap.size, 0, none⟩ = some (.string ⟨n.toArray⟩) ∧ wr.cell? ⟨w.heap.size + 1, 0, none⟩ = some (.bool sq) ∧ Below w.heap.size w wr) (fun i _ => L.length - (intOf i).toNat)
  case atStart => exact ⟨0, Nat.zero_le _, rfl, by rw [part2_zero]; exact HO.out, HC.out.1, HC.out.2, HB.out⟩
  case round =>
    clear HO HC HB
    obtain ⟨k, hk, rfl, hown, cg, ch, hb⟩ := hrel
    by_cases hlt : k < L.length
    · obtain ⟨g, rfl⟩ := HA.out (by omega)
      obtain ⟨c1, c2⟩ := own_cell hown hlt
      rw [part2_at n u hlt] at c1 c2
      have HM := Lib.hid (part2_more n u hlt)
      have HS := Lib.hid (part2_same n u hlt)
      have HG := Lib.hid (hown.lt g rfl)
      have HO : Hid (wr.drew.ownsRow (w.heap.size + 2) 46 2 (.slice (some ⟨g, 0, none⟩) L.length cp) L.length (fcs (part2 n u L k))) := Lib.hid hown
      have hFL := fcs_len (part2 n u L k)
      rw [part2_len n u L hk] at hFL
      have HFL := Lib.hid hFL
      have HAt := Lib.hid (fcs_at (l := part2 n u L k) (j := k) (by rw [part2_len n u L hk]; exact hlt)).1
      rw [part2_at n u hlt] at HAt
      have HB : Hid (Below w.heap.size w wr.drew) := Lib.hid ⟨hb.os, hb.tape, hb.output, hb.size, hb.block⟩
      have HC : Hid (wr.drew.cell? ⟨w.heap.size, 0, none⟩ = some (.string ⟨n.toArray⟩) ∧ wr.drew.cell? ⟨w.heap.size + 1, 0, none⟩ = some (.bool sq)) := Lib.hid ⟨cg, ch⟩
      have fz : wr.drew.frozen? ⟨g, k * 2 + 1, none⟩ = false := HO.out.frozenAt (k * 2 + 1)
      generalize hx : L.getD k nofld = f at c1 c2 HM HS HAt
      clear hx hown hb hFL
      obtain ⟨x, y⟩ := f
      unfold sv at c1 c2
      have e2 : wr.drew.cell? ⟨g, k * 2 + 1, none⟩ = some (.string ⟨y.toArray⟩) := c2
      by_cases hx : x = n
      · subst hx
        have st := HO.out.stored (k * 2 + 1) (sv u)
        have HQ : Hid ((fcs (part2 x u L k)).set (k * 2 + 1) (sv u) = fcs (part2 x u L (k + 1))) := Lib.hid (by
          rw [HM.out, ← fcs_set]
          have hp : pv x u (x, y) = (x, u) := by unfold pv; rw [if_pos rfl]
          rw [hp]
          congr 1
          refine (List.ext_getElem? fun i => ?_)
          by_cases hi : k * 2 = i
          · subst hi
            rw [List.getElem?_set_self (by rw [HFL.out]; omega)]
            exact HAt.out
          · rw [List.getElem?_set_ne hi])
        have HR := Lib.hid (And.intro st.1 (And.intro (st.2.cell HC.out.1 (fun e => by have q : w.heap.size = g := Option.some.inj e; have := HG.out.1; omega)) (And.intro (st.2.cell HC.out.2 (fun e => by have q : w.heap.size + 1 = g := Option.some.inj e; have := HG.out.1; omega)) (HB.out.grown st.2 HB.out.size (fun q e => by cases e; have := HG.out.1; omega)))))
        clear st HM HS
        unfold sv at HR
        go_wp2
        all_goals go_region
        all_goals go_wp2
        all_goals go_roundw
        all_goals first
          | exact ⟨k + 1, by omega, by go_num, by rw [← HQ.out]; exact HR.out.1, HR.out.2.1, HR.out.2.2.1, HR.out.2.2.2⟩
          | (simp [intOf]; omega)
      · have HS' : Hid (part2 n u L (k + 1) = part2 n u L k) := Lib.hid (HS.out hx)
        have hq : (x == n) = false := by simpa using hx
        clear HM HS
        go_wp2
        all_goals go_region
        all_goals go_wp2
        all_goals go_roundw
        all_goals first
          | exact ⟨k + 1, by omega, by go_num, by rw [HS'.out]; exact HO.out, HC.out.1, HC.out.2, HB.out⟩
          | (simp [intOf]; omega)
    · have HP := Lib.hid (part2_all n u L (k := k) (by omega))
      rw [HP.out] at hown
      have HB := Lib.hid hb
      clear hb
      cases sq
      · have hmm : (L.map (pv n u)).length = L.length := List.length_map _
        have hown' : wr.ownsRow w.heap.size 46 2 (.slice a L.length cp) L.length (fcs (L.map (pv n u))) := by
          obtain ⟨q1, q2⟩ := hown
          refine ⟨q1, ?_⟩
          rcases q2 with q2 | ⟨g, cap, cur, e, h1, h2⟩
          · exact Or.inl q2
          · exact Or.inr ⟨g, cap, cur, e, by omega, h2⟩
        have hL := fcs_len (L.map (pv n u))
        rw [hmm] at hL
        clear hown
        go_wp2_with (at_builtin; refine wpList_append_own _ rfl (.tmp 33) (.tmp 37) 34 rfl w.heap.size 46 i0 (.agg #[.string ⟨#[]⟩, .string ⟨#[]⟩]) 2 32 Tryd.underlying34 hi hz0 hz1 hz2 rfl (by decide) (.slice a L.length cp) L.length (fcs (L.map (pv n u))) rfl (hown'.alloc _) ⟨wr.heap.size, 0, none⟩ 1 1 [.string ⟨n.toArray⟩, .string ⟨u.toArray⟩] rfl rfl (news_two _ _ _ _) (two_one (n, u)) (by unfold maxLen; omega) (by omega) (by have := HB.out.size; simp; omega) ?_; intro v1 w4 hown1 hg4 _)
        have R := Lib.hid (And.intro (show Own w4 w.heap.size v1 (fin n u l) by
          rw [← HE.out, if_neg (by decide)]
          show w4.ownsRow _ _ _ _ (L.map (pv n u) ++ [(n, u)]).length (fcs (L.map (pv n u) ++ [(n, u)]))
          rw [List.length_append, hmm, fcs_more]
          exact hown1) ((HB.out.alloc HB.out.size _).grown hg4 (by have := HB.out.size; rw [World.size_alloc]; omega) (fun k e => (hown'.lt k e).1)))
        clear hown1 hg4 hown'
        go_wp2
        go_ret
        exact ⟨_, rfl, R.out.1, R.out.2⟩
      · have R := Lib.hid (And.intro (show Own wr w.heap.size (.slice a L.length cp) (fin n u l) by
          rw [← HE.out, if_pos rfl, List.append_nil]
          have hmm : (L.map (pv n u)).length = L.length := List.length_map _
          show wr.ownsRow _ _ _ _ (L.map (pv n u)).length _
          rw [hmm]
          obtain ⟨q1, q2⟩ := hown
          refine ⟨q1, ?_⟩
          rcases q2 with q2 | ⟨g, cap, cur, e, h1, h2⟩
          · exact Or.inl q2
          · exact Or.inr ⟨g, cap, cur, e, by omega, h2⟩) HB.out)
        clear hown
        go_wp2
        go_ret
        exact ⟨_, rfl, R.out.1, R.out.2⟩
end Go.Proofs.YtobhdfkhfmpdlaaDoor.Flds
