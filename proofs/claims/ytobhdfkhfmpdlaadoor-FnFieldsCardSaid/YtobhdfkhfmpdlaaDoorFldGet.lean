/-
  CONTRACTS of GetField, the model's and the program's: the joined values of the fields with a name, and whether there are any; nothing that was there before is changed.
-/
import Derived.Test.YtobhdfkhfmpdlaaDoorFldFil
import Derived.Test.YtobhdfkhfmpdlaaDoorJoinS
import Derived.Test.YtobhdfkhfmpdlaaDoorJoinI
namespace Go.Proofs.YtobhdfkhfmpdlaaDoor.Flds
open Go Go.RowKit
set_option linter.unusedVariables false
set_option maxRecDepth 1000000

def vals (n : List UInt8) (l : List Fld) : List (List UInt8) := (l.filter (fun f => f.1 == n)).map (·.2)
theorem vals_total (n : List UInt8) (l : List Fld) : Strs.total (vals n l) ≤ total l := by
  unfold Strs.total total vals
  induction l with
  | nil => simp
  | cons a r ih =>
    by_cases h : (a.1 == n) = true
    · rw [List.filter_cons_of_pos (by exact h)]; simp [wt] at ih ⊢; omega
    · rw [List.filter_cons_of_neg (by exact h)]; simp [wt] at ih ⊢; omega
theorem vals_more {n : List UInt8} {l : List Fld} {k : Nat} (h : k < l.length) : vals n (l.take (k + 1)) = if (l.getD k nofld).1 = n then vals n (l.take k) ++ [(l.getD k nofld).2] else vals n (l.take k) := by
  unfold vals
  rw [filt_more h]
  by_cases e : (l.getD k nofld).1 = n
  · rw [if_pos e, if_pos (by simpa using e), List.map_append]; rfl
  · rw [if_neg e, if_neg (by simpa using e)]
theorem vals_le (n : List UInt8) (l : List Fld) (k : Nat) : (vals n (l.take k)).length ≤ l.length := by
  unfold vals; rw [List.length_map]; exact filt_le _ l k

def GetEnd (n : List UInt8) (l : List Fld) (w : World) (e : Ending) (w' : World) : Prop := e = .returned (.tuple #[.string ⟨(Tx.join (vals n l)).toArray⟩, .bool (decide (0 < (vals n l).length))]) ∧ Below w.heap.size w w'
theorem ret_get {xs ys : List (List UInt8)} {q : Bool} (h : xs = ys) (hq : q = decide (0 < xs.length)) : Ending.returned (.tuple #[.string ⟨(Tx.join xs).toArray⟩, .bool q]) = .returned (.tuple #[.string ⟨(Tx.join ys).toArray⟩, .bool (decide (0 < ys.length))]) := by rw [← h, hq]
theorem shape_of {w : World} {B : Nat} {v : Value} {T : TypeId} {s n : Nat} {xs : List Value} (h : w.ownsRow B T s v n xs) : ∃ a cap, v = .slice a n cap ∧ (0 < n → ∃ g, a = some ⟨g, 0, none⟩) := by
  rcases h.2 with ⟨rfl, h0⟩ | ⟨g, cap, cur, rfl, _⟩
  · exact ⟨none, 0, by rw [h0], fun h' => by omega⟩
  · exact ⟨_, cap, rfl, fun _ => ⟨g, rfl⟩⟩

/-! The program's. -/
theorem get_keeps (g : Nat) (n : List UInt8) (w : World) (hc : w.cell? ⟨g, 0, none⟩ = some (.string ⟨n.toArray⟩)) : Keeps 45 (.pointer (some ⟨g, 0, none⟩)) (fun f => f.1 == n) w := by
  intro x y wx hb
  have hg := lt_of_cell hc
  have hgx : g < wx.heap.size := Nat.lt_of_lt_of_le hg hb.size
  have hcx : wx.cell? ⟨g, 0, none⟩ = some (.string ⟨n.toArray⟩) := (hb.cell (p := ⟨g, 0, none⟩) hg).trans hc
  have HB := Lib.hid ((Below.refl wx.heap.size wx).alloc (Nat.le_refl _) (.cells #[.string ⟨x.toArray⟩, .string ⟨y.toArray⟩] 46))
  clear hb hc hg
  by_cases e : x = n
  · subst e
    go_enter Tryd.func45, Tryd.ntmps45
    go_wp2
    go_ret
    exact ⟨by simp, HB.out⟩
  · have hq : (x == n) = false := by simpa using e
    go_enter Tryd.func45, Tryd.ntmps45
    go_wp2
    go_ret
    exact ⟨by simp [e], HB.out⟩

theorem row_apart {w : World} {B B' n n' : Nat} {T T' : TypeId} {sz sz' : Nat} {v v' : Value} {xs xs' : List Value} (h : w.ownsRow B T sz v n xs) (h' : w.ownsRow B' T' sz' v' n' xs') (hT : T ≠ T') : ∀ g, v.ownBlock = some g → some g ≠ v'.ownBlock := by
  intro g hg hg'
  rcases h.2 with ⟨rfl, _⟩ | ⟨a, cap, cur, rfl, _, h2, _⟩
  · cases hg
  · rcases h'.2 with ⟨rfl, _⟩ | ⟨a', cap', cur', rfl, _, h2', _⟩
    · cases hg'
    · cases hg; cases hg'
      rw [h2] at h2'
      simp at h2'
      exact hT h2'.2

set_option maxHeartbeats 1000000 in
theorem impl_get (v : Value) (B : Nat) (l : List Fld) (n : List UInt8) (w : World) (h : Holds w B v l) (hB : B ≤ w.heap.size) (hl : total l ≤ 1048576) :
    Calls Tryd.prog 15 #[v, .string ⟨n.toArray⟩] w (GetEnd n l w) := by
  have hmf : ∀ (fn : Fn) (first cap : Array Value) (w : World), (Instr.makeFunc fn first cap).run Tryd.prog w = .ok (.func fn first cap) w := fun _ _ _ _ => rfl
  obtain ⟨i0, hi, hz0, hz1, hz2⟩ := info_parts Strs.info_str
  have hll : l.length ≤ 1048576 := by unfold total at hl; omega
  have HT : Hid (Strs.total (vals n l) ≤ 67108864) := Lib.hid (Nat.le_trans (vals_total n l) (by omega))
  have hb2 : Below w.heap.size w ((w.alloc (.cells #[.string ⟨n.toArray⟩] 9)).alloc (.cells #[] 9)) := ((Below.refl _ _).alloc (Nat.le_refl _) _).alloc (by simp) _
  have hcn : ((w.alloc (.cells #[.string ⟨n.toArray⟩] 9)).alloc (.cells #[] 9)).cell? ⟨w.heap.size, 0, none⟩ = some (.string ⟨n.toArray⟩) := by
    rw [World.cell?_alloc_past _ _ _ (by simp), World.cell?_alloc_at _ _ _ _ rfl]; rfl
  have hlit : Strs.Own ((w.alloc (.cells #[.string ⟨n.toArray⟩] 9)).alloc (.cells #[] 9)) w.heap.size (.slice (some ⟨w.heap.size + 1, 0, none⟩) 0 0) [] := by
    have h := World.ownsRow_lit (e := 9) (size := 1) (base := w.heap.size) (w.alloc (.cells #[.string ⟨n.toArray⟩] 9)) #[] 0 (by rw [World.size_alloc]; omega) (by decide) rfl
    rw [World.size_alloc] at h; exact h
  have HF := Lib.hid (filter_any 45 (.pointer (some ⟨w.heap.size, 0, none⟩)) (fun f => f.1 == n) v B l _ enters_get (get_keeps w.heap.size n _ hcn) (holds_below h (hb2.mono hB)) hll)
  have HL := Lib.hid (And.intro hlit hb2)
  clear hlit hb2 hcn h
  go_enter Tryd.func15, Tryd.ntmps15
  go_wp2_with (fail)
  go_at_call 43
  refine HF.out.mono ?_
  rintro e w3 ⟨v3, rfl, hown3, hb3⟩
  have hz3 := hb3.size
  simp only [World.size_alloc] at hz3
  have HS := Lib.hid (row_below HL.out.1 hb3)
  have HB := Lib.hid (HL.out.2.trans (hb3.mono (by simp; omega)))
  have HK := Lib.hid (own_mono hown3 (B' := w.heap.size) (by simp; omega))
  have hkn : Hid ((l.filter (fun f => f.1 == n)).length ≤ 1048576) := Lib.hid (Nat.le_trans (List.length_filter_le _ _) hll)
  have HV : Hid ((l.filter (fun f => f.1 == n)).map (·.2) = vals n l) := Lib.hid rfl
  obtain ⟨a, cp, rfl, ha⟩ := shape_of hown3
  clear hb3 hown3 HL HF
  generalize l.filter (fun f => f.1 == n) = ks at HK hkn HV ha
  have HA := Lib.hid ha
  have hkn' := hkn.out
  clear ha hz3
  go_wp2
  go_loopw [6, 14] (fun u i wr => ∃ k : Nat, k ≤ ks.length ∧ i = .int .i64 (k : Int) ∧ Strs.Own wr w.heap.size u ((ks.take k).map (·.2)) ∧ Own wr w.heap.size (.slice a ks.length cp) ks ∧ Below w.heap.size w wr) (fun _ i _ => ks.length - (intOf i).toNat)
  case atStart => exact ⟨0, Nat.zero_le _, rfl, HS.out, HK.out, HB.out⟩
  case round =>
    clear HS HK HB
    obtain ⟨k, hk, rfl, hown, hkeep, hb⟩ := hrel
    by_cases hlt : k < ks.length
    · obtain ⟨g, rfl⟩ := HA.out (by omega)
      obtain ⟨c1, c2⟩ := own_cell hkeep hlt
      have HM : Hid ((ks.take (k + 1)).map (·.2) = (ks.take k).map (·.2) ++ [(ks.getD k nofld).2]) := Lib.hid (by rw [List.take_succ_eq_append_getElem hlt, List.map_append, show ks.getD k nofld = ks[k] by simp [List.getD, hlt]]; rfl)
      have HL : Hid (((ks.take k).map (·.2)).length ≤ ks.length) := Lib.hid (by rw [List.length_map, List.length_take]; omega)
      have HP := Lib.hid (row_apart hkeep hown (by decide))
      generalize hx : ks.getD k nofld = f at c1 c2 HM
      clear hx
      obtain ⟨x, y⟩ := f
      unfold sv at c1 c2
      have hL := Strs.svs_len ((ks.take k).map (·.2))
      have hg1 : g < wr.heap.size := lt_of_cell c1
      have HB := Lib.hid hb
      have HK := Lib.hid hkeep
      clear hb hkeep
      have HO := Lib.hid hown
      have hba : Hid (Below wr.heap.size wr (wr.alloc (.cells #[.string ⟨x.toArray⟩, .string ⟨y.toArray⟩] 46))) := Lib.hid ((Below.refl _ _).alloc (Nat.le_refl _) _)
      have hownA := row_below hown hba.out
      have HBA := Lib.hid (HB.out.trans (hba.out.mono HB.out.size))
      have HKA := Lib.hid (row_below HK.out hba.out)
      have hnews : ∀ j u, [(.string ⟨y.toArray⟩ : Value)][j]? = some u → ((wr.alloc (.cells #[.string ⟨x.toArray⟩, .string ⟨y.toArray⟩] 46)).alloc (.cells #[.string ⟨y.toArray⟩] 9)).cell? ((⟨wr.heap.size + 1, 0, none⟩ : Addr).add j) = some u := by
        have h := Strs.news_one (wr.alloc (.cells #[.string ⟨x.toArray⟩, .string ⟨y.toArray⟩] 46)) (.string ⟨y.toArray⟩) 9
        rw [World.size_alloc] at h; exact h
      have HN := Lib.hid hnews
      clear hown hnews HO
      go_wp2_with (at_builtin; refine wpList_append_own _ rfl (.tmp 18) (.tmp 21) 52 rfl w.heap.size 9 i0 (.string ⟨#[]⟩) 1 16 Tryd.underlying52 hi hz0 hz1 hz2 rfl (by decide) _ _ _ rfl (hownA.alloc _) ⟨wr.heap.size + 1, 0, none⟩ 1 1 [.string ⟨y.toArray⟩] rfl rfl HN.out (Strs.sv_one y) (by have := HL.out; unfold maxLen; omega) (by have := HL.out; omega) (by have := HB.out.size; simp; omega) ?_; intro v1 w1 hown1 hg1 _)
      have R := Lib.hid (Strs.push_own (x := y) hownA HBA.out (Nat.le_refl _) hown1 hg1)
      have RK := Lib.hid (row_grown (row_below HKA.out ((Below.refl _ _).alloc (Nat.le_refl _) (.cells #[.string ⟨y.toArray⟩] 9))) hg1 HP.out)
      clear hownA hown1 hg1
      go_wp2
      go_roundw
      case rel => exact ⟨k + 1, by omega, by go_num, by rw [HM.out]; exact R.out.1, RK.out, R.out.2⟩
      case measure => simp [intOf]; omega
    · have HE : Hid ((ks.take k).map (·.2) = vals n l) := Lib.hid (by rw [List.take_of_length_le (by omega)]; exact HV.out)
      generalize (ks.take k).map (·.2) = xs at hown HE
      obtain ⟨a', cp', rfl, _⟩ := shape_of hown
      have HJ := Lib.hid (Tx.impl_join _ _ xs wr (Strs.own_holds hown) (by rw [HE.out]; exact HT.out))
      have HB := Lib.hid hb
      clear hown hb hkeep
      go_wp2_with (fail)
      go_at_call 36
      refine HJ.out.mono ?_
      rintro e w1 ⟨rfl, hb1⟩
      go_wp2
      go_ret2
      exact ⟨ret_get HE.out (by simp), Base.then_below HB.out hb1⟩
end Go.Proofs.YtobhdfkhfmpdlaaDoor.Flds
