/-
  CONTRACTS AND PLAIN FACTS, several texts in one; each says in its own words what it proves.
-/
import Derived.Test.YtidmppphlcfpjaaGreatDoorPqH
import Derived.Test.YtidmppphlcfpjaaGreatDoorPqE
import Derived.Test.YtidmppphlcfpjaaGreatDoorPqO
import Derived.Test.YtidmppphlcfpjaaGreatDoorPqF
import Derived.Test.YtidmppphlcfpjaaGreatDoorPqA
import Derived.LoopTactic
set_option linter.unusedSimpArgs false
set_option linter.unusedVariables false

/-
  CONTRACT of the program's JoinList: at every slice of texts that are not too long together it returns the texts with a comma and a space between them; nothing that was there before is changed.
-/
namespace Go.Proofs.YtidmppphlcfpjaaGreatDoor.Tx
open Go Go.RowKit Strs
set_option linter.unusedVariables false
set_option maxRecDepth 1000000

theorem lib_join (v : Value) (B : Nat) (xs : List (List UInt8)) (w : World) (h : Holds w B v xs) (ht : total xs ≤ 67108864) :
    Calls Tryz.prog 148 #[v, .string ⟨#[44, 32]⟩] w (JoinEnd xs w) := by
  have hl : xs.length ≤ 67108864 := by unfold total at ht; omega
  rcases h with ⟨rfl, a, cap, rfl⟩ | ⟨h0, b, off, cap, rfl, _, hcap, hc⟩
  · refine (Tryz.strings_Join_none a cap ⟨#[44, 32]⟩ w).mono ?_
    rintro e w' ⟨rfl, rfl⟩
    exact ⟨rfl, Below.refl _ _⟩
  · have hm : (xs.map (fun x => (⟨x.toArray⟩ : ByteArray))).map (·.data.toList) = xs := by rw [List.map_map]; exact List.map_id'' (fun _ => rfl) xs
    have hlen : (Lib.join xs [44, 32]).length ≤ 140737488355328 := by
      have h1 := join_len xs xs.length (Nat.le_refl _)
      rw [List.take_length] at h1
      have h2 := pre_le xs xs.length
      have : (join xs).length = (Lib.join xs [44, 32]).length := rfl
      unfold total at ht; omega
    have c := Tryz.strings_Join b off cap (xs.map (fun x => (⟨x.toArray⟩ : ByteArray))) ⟨#[44, 32]⟩ w (fun j x hj => by
      rw [List.getElem?_map] at hj
      have hjl : j < xs.length := by
        rcases Nat.lt_or_ge j xs.length with h' | h'
        · exact h'
        · rw [List.getElem?_eq_none h'] at hj; cases hj
      rw [hc j hjl]
      rw [List.getElem?_eq_getElem hjl] at hj
      simp at hj; subst hj
      simp [List.getD, hjl, sv]) (at_lt hc h0) (by simp; omega) (by simpa using hcap) (by rw [hm]; exact hlen)
    rw [hm, List.length_map] at c
    exact c

theorem impl_join (v : Value) (B : Nat) (xs : List (List UInt8)) (w : World) (h : Holds w B v xs) (ht : total xs ≤ 67108864) :
    Calls Tryz.prog 179 #[v] w (JoinEnd xs w) := by
  have c1 := lib_join v B xs w h ht
  unfold JoinEnd at c1 ⊢
  generalize (⟨(join xs).toArray⟩ : ByteArray) = z at c1 ⊢
  clear h
  go_enter Tryz.func179, Tryz.ntmps179
  go_wp2_with (go_at_call 148; refine c1.mono ?_; rintro e w1 ⟨rfl, hb⟩)
  go_ret
  exact ⟨rfl, hb⟩
end Go.Proofs.YtidmppphlcfpjaaGreatDoor.Tx

/-
  CONTRACTS of GetField, the model's and the program's: the joined values of the fields with a name, and whether there are any; nothing that was there before is changed.
-/
namespace Go.Proofs.YtidmppphlcfpjaaGreatDoor.Flds
open Go Go.RowKit
set_option linter.unusedVariables false
set_option maxRecDepth 1000000

def vals (n : List UInt8) (l : List Fld) : List (List UInt8) := (l.filter (fun f => f.1 == n)).map (·.2)
theorem vals_total (n : List UInt8) (l : List Fld) : Strs.total (vals n l) ≤ total l := by
  unfold Strs.total total vals
  induction l with
  | nil => simp
  | cons a r ih =>
    by_cases h : (a.1 == n) = true
    · rw [List.filter_cons_of_pos (by exact h)]; simp [wt] at ih ⊢; omega
    · rw [List.filter_cons_of_neg (by exact h)]; simp [wt] at ih ⊢; omega
theorem vals_more {n : List UInt8} {l : List Fld} {k : Nat} (h : k < l.length) : vals n (l.take (k + 1)) = if (l.getD k nofld).1 = n then vals n (l.take k) ++ [(l.getD k nofld).2] else vals n (l.take k) := by
  unfold vals
  rw [filt_more h]
  by_cases e : (l.getD k nofld).1 = n
  · rw [if_pos e, if_pos (by simpa using e), List.map_append]; rfl
  · rw [if_neg e, if_neg (by simpa using e)]
theorem vals_le (n : List UInt8) (l : List Fld) (k : Nat) : (vals n (l.take k)).length ≤ l.length := by
  unfold vals; rw [List.length_map]; exact filt_le _ l k

def GetEnd (n : List UInt8) (l : List Fld) (w : World) (e : Ending) (w' : World) : Prop := e = .returned (.tuple #[.string ⟨(Tx.join (vals n l)).toArray⟩, .bool (decide (0 < (vals n l).length))]) ∧ Below w.heap.size w w'
theorem ret_get {xs ys : List (List UInt8)} {q : Bool} (h : xs = ys) (hq : q = decide (0 < xs.length)) : Ending.returned (.tuple #[.string ⟨(Tx.join xs).toArray⟩, .bool q]) = .returned (.tuple #[.string ⟨(Tx.join ys).toArray⟩, .bool (decide (0 < ys.length))]) := by rw [← h, hq]
theorem shape_of {w : World} {B : Nat} {v : Value} {T : TypeId} {s n : Nat} {xs : List Value} (h : w.ownsRow B T s v n xs) : ∃ a cap, v = .slice a n cap ∧ (0 < n → ∃ g, a = some ⟨g, 0, none⟩) := by
  rcases h.2 with ⟨rfl, h0⟩ | ⟨g, cap, cur, rfl, _⟩
  · exact ⟨none, 0, by rw [h0], fun h' => by omega⟩
  · exact ⟨_, cap, rfl, fun _ => ⟨g, rfl⟩⟩

theorem spec_get_nil (a : Option Addr) (cap : Nat) (n : List UInt8) (w : World) :
    Calls Tryz.prog 79 #[.slice a 0 cap, .string ⟨n.toArray⟩] w (GetEnd n [] w) := by
  have HJ := Lib.hid (Tx.spec_join (.slice (some ⟨w.heap.size, 0, none⟩) 0 0) 0 [] (w.alloc (.cells #[] 9)) (Or.inl ⟨rfl, _, _, rfl⟩) (by decide))
  go_enter Tryz.func79, Tryz.ntmps79
  go_wp2
  go_loop [6, 7] (fun v i => i = .int .i64 0 ∧ v = .slice (some ⟨w.heap.size, 0, none⟩) 0 0) (fun _ i => 0)
  case atStart => exact ⟨rfl, rfl⟩
  case round =>
    obtain ⟨rfl, rfl⟩ := hrel
    go_wp2_with (go_at_call 107; refine HJ.out.mono ?_; rintro e w1 ⟨rfl, hb1⟩)
    go_ret2
    exact ⟨rfl, ((Below.refl _ _).alloc (Nat.le_refl _) _).trans (hb1.mono (by rw [World.size_alloc]; omega))⟩

set_option maxHeartbeats 1000000 in
theorem spec_get_some (b off cap : Nat) (l : List Fld) (n : List UInt8) (w : World) (hc : At w b off l) (h0 : 0 < l.length) (hl : total l ≤ 67108864) :
    Calls Tryz.prog 79 #[.slice (some ⟨b, off, none⟩) l.length cap, .string ⟨n.toArray⟩] w (GetEnd n l w) := by
  obtain ⟨i0, hi, hz0, hz1, hz2⟩ := info_parts Strs.info_str
  have hbl := at_lt hc h0
  have hll : l.length ≤ 67108864 := by unfold total at hl; omega
  have HC := Lib.hid hc
  have HT : Hid (Strs.total (vals n l) ≤ 67108864) := Lib.hid (Nat.le_trans (vals_total n l) hl)
  have HO := Lib.hid (Strs.own_lit_nil w)
  clear hc hl
  go_enter Tryz.func79, Tryz.ntmps79
  go_wp2
  go_loopw [6, 7] (fun v i wr => ∃ k : Nat, k ≤ l.length ∧ i = .int .i64 (k : Int) ∧ Strs.Own wr w.heap.size v (vals n (l.take k)) ∧ Below w.heap.size w wr) (fun _ i _ => l.length - (intOf i).toNat)
  case atStart => exact ⟨0, Nat.zero_le _, rfl, by rw [List.take_zero]; exact HO.out, (Below.refl _ _).alloc (Nat.le_refl _) _⟩
  case round =>
    clear HO
    obtain ⟨k, hk, rfl, hown, hb⟩ := hrel
    by_cases hlt : k < l.length
    · obtain ⟨c1, c2⟩ := at_below HC.out hb hbl k hlt
      have HM := Lib.hid (vals_more (n := n) hlt)
      generalize hx : l.getD k nofld = f at c1 c2 HM
      clear hx
      obtain ⟨x, y⟩ := f
      unfold sv at c1 c2
      by_cases hx : x = n
      · subst hx
        rw [if_pos rfl] at HM
        have HL := Lib.hid (vals_le x l k)
        have hL := Strs.svs_len (vals x (l.take k))
        go_wp2_with (at_builtin; refine wpList_append_own _ rfl (.tmp 22) (.tmp 28) 28 rfl w.heap.size 9 i0 (.string ⟨#[]⟩) 1 16 Tryz.underlying28 hi hz0 hz1 hz2 rfl (by decide) _ _ _ rfl (hown.alloc _) ⟨wr.heap.size, 0, none⟩ 1 1 [.string ⟨y.toArray⟩] rfl rfl (Strs.news_one _ _ _) (Strs.sv_one y) (by have := HL.out; unfold maxLen; omega) (by have := HL.out; omega) (by have := hb.size; simp; omega) ?_; intro v1 w1 hown1 hg1 _)
        have R := Lib.hid (Strs.push_own (x := y) hown hb (Nat.le_refl _) hown1 hg1)
        clear hown hown1 hg1 hb
        go_wp2
        go_roundw
        case rel => exact ⟨k + 1, by omega, by go_num, by rw [HM.out]; exact R.out.1, R.out.2⟩
        case measure => simp [intOf]; omega
      · have hq : (x == n) = false := by simpa using hx
        rw [if_neg hx] at HM
        clear hx
        have HO := Lib.hid (And.intro hown hb)
        clear hown hb
        go_wp2
        go_roundw
        case rel => exact ⟨k + 1, by omega, by go_num, by rw [HM.out]; exact HO.out.1, HO.out.2⟩
        case measure => simp [intOf]; omega
    · have HE : Hid (vals n (l.take k) = vals n l) := Lib.hid (by rw [List.take_of_length_le (by omega)])
      obtain ⟨a, cp, rfl, _⟩ := shape_of hown
      have HJ := Lib.hid (Tx.spec_join _ _ (vals n (l.take k)) wr (Strs.own_holds hown) (by rw [HE.out]; exact HT.out))
      have HB := Lib.hid hb
      clear hown hb
      go_wp2_with (go_at_call 107; refine HJ.out.mono ?_; rintro e w1 ⟨rfl, hb1⟩)
      go_ret2
      exact ⟨ret_get HE.out (by simp), Base.then_below HB.out hb1⟩

theorem spec_get (v : Value) (B : Nat) (l : List Fld) (n : List UInt8) (w : World) (h : Holds w B v l) (hl : total l ≤ 67108864) :
    Calls Tryz.prog 79 #[v, .string ⟨n.toArray⟩] w (GetEnd n l w) := by
  rcases h with ⟨rfl, a, cap, rfl⟩ | ⟨h0, b, off, cap, rfl, _, _, hc⟩
  · exact spec_get_nil a cap n w
  · exact spec_get_some b off cap l n w hc h0 hl

/-! The program's. -/
theorem get_keeps (g : Nat) (n : List UInt8) (w : World) (hc : w.cell? ⟨g, 0, none⟩ = some (.string ⟨n.toArray⟩)) : Keeps 178 (.pointer (some ⟨g, 0, none⟩)) (fun f => f.1 == n) w := by
  intro x y wx hb
  have hg := lt_of_cell hc
  have hgx : g < wx.heap.size := Nat.lt_of_lt_of_le hg hb.size
  have hcx : wx.cell? ⟨g, 0, none⟩ = some (.string ⟨n.toArray⟩) := (hb.cell (p := ⟨g, 0, none⟩) hg).trans hc
  have HB := Lib.hid ((Below.refl wx.heap.size wx).alloc (Nat.le_refl _) (.cells #[.string ⟨x.toArray⟩, .string ⟨y.toArray⟩] 123))
  clear hb hc hg
  by_cases e : x = n
  · subst e
    go_enter Tryz.func178, Tryz.ntmps178
    go_wp2
    go_ret
    exact ⟨by simp, HB.out⟩
  · have hq : (x == n) = false := by simpa using e
    go_enter Tryz.func178, Tryz.ntmps178
    go_wp2
    go_ret
    exact ⟨by simp [e], HB.out⟩

theorem row_apart {w : World} {B B' n n' : Nat} {T T' : TypeId} {sz sz' : Nat} {v v' : Value} {xs xs' : List Value} (h : w.ownsRow B T sz v n xs) (h' : w.ownsRow B' T' sz' v' n' xs') (hT : T ≠ T') : ∀ g, v.ownBlock = some g → some g ≠ v'.ownBlock := by
  intro g hg hg'
  rcases h.2 with ⟨rfl, _⟩ | ⟨a, cap, cur, rfl, _, h2, _⟩
  · cases hg
  · rcases h'.2 with ⟨rfl, _⟩ | ⟨a', cap', cur', rfl, _, h2', _⟩
    · cases hg'
    · cases hg; cases hg'
      rw [h2] at h2'
      simp at h2'
      exact hT h2'.2

set_option maxHeartbeats 1000000 in
theorem impl_get (v : Value) (B : Nat) (l : List Fld) (n : List UInt8) (w : World) (h : Holds w B v l) (hB : B ≤ w.heap.size) (hl : total l ≤ 1048576) :
    Calls Tryz.prog 151 #[v, .string ⟨n.toArray⟩] w (GetEnd n l w) := by
  have hmf : ∀ (fn : Fn) (first cap : Array Value) (w : World), (Instr.makeFunc fn first cap).run Tryz.prog w = .ok (.func fn first cap) w := fun _ _ _ _ => rfl
  obtain ⟨i0, hi, hz0, hz1, hz2⟩ := info_parts Strs.info_str
  have hll : l.length ≤ 1048576 := by unfold total at hl; omega
  have HT : Hid (Strs.total (vals n l) ≤ 67108864) := Lib.hid (Nat.le_trans (vals_total n l) (by omega))
  have hb2 : Below w.heap.size w ((w.alloc (.cells #[.string ⟨n.toArray⟩] 9)).alloc (.cells #[] 9)) := ((Below.refl _ _).alloc (Nat.le_refl _) _).alloc (by simp) _
  have hcn : ((w.alloc (.cells #[.string ⟨n.toArray⟩] 9)).alloc (.cells #[] 9)).cell? ⟨w.heap.size, 0, none⟩ = some (.string ⟨n.toArray⟩) := by
    rw [World.cell?_alloc_past _ _ _ (by simp), World.cell?_alloc_at _ _ _ _ rfl]; rfl
  have hlit : Strs.Own ((w.alloc (.cells #[.string ⟨n.toArray⟩] 9)).alloc (.cells #[] 9)) w.heap.size (.slice (some ⟨w.heap.size + 1, 0, none⟩) 0 0) [] := by
    have h := World.ownsRow_lit (e := 9) (size := 1) (base := w.heap.size) (w.alloc (.cells #[.string ⟨n.toArray⟩] 9)) #[] 0 (by rw [World.size_alloc]; omega) (by decide) rfl
    rw [World.size_alloc] at h; exact h
  have HF := Lib.hid (filter_any 178 (.pointer (some ⟨w.heap.size, 0, none⟩)) (fun f => f.1 == n) v B l _ enters_get (get_keeps w.heap.size n _ hcn) (holds_below h (hb2.mono hB)) hll)
  have HL := Lib.hid (And.intro hlit hb2)
  clear hlit hb2 hcn h
  go_enter Tryz.func151, Tryz.ntmps151
  go_wp2_with (fail)
  go_at_call 177
  refine HF.out.mono ?_
  rintro e w3 ⟨v3, rfl, hown3, hb3⟩
  have hz3 := hb3.size
  simp only [World.size_alloc] at hz3
  have HS := Lib.hid (row_below HL.out.1 hb3)
  have HB := Lib.hid (HL.out.2.trans (hb3.mono (by simp; omega)))
  have HK := Lib.hid (own_mono hown3 (B' := w.heap.size) (by simp; omega))
  have hkn : Hid ((l.filter (fun f => f.1 == n)).length ≤ 1048576) := Lib.hid (Nat.le_trans (List.length_filter_le _ _) hll)
  have HV : Hid ((l.filter (fun f => f.1 == n)).map (·.2) = vals n l) := Lib.hid rfl
  obtain ⟨a, cp, rfl, ha⟩ := shape_of hown3
  clear hb3 hown3 HL HF
  generalize l.filter (fun f => f.1 == n) = ks at HK hkn HV ha
  have HA := Lib.hid ha
  have hkn' := hkn.out
  clear ha hz3
  go_wp2
  go_loopw [6, 14] (fun u i wr => ∃ k : Nat, k ≤ ks.length ∧ i = .int .i64 (k : Int) ∧ Strs.Own wr w.heap.size u ((ks.take k).map (·.2)) ∧ Own wr w.heap.size (.slice a ks.length cp) ks ∧ Below w.heap.size w wr) (fun _ i _ => ks.length - (intOf i).toNat)
  case atStart => exact ⟨0, Nat.zero_le _, rfl, HS.out, HK.out, HB.out⟩
  case round =>
    clear HS HK HB
    obtain ⟨k, hk, rfl, hown, hkeep, hb⟩ := hrel
    by_cases hlt : k < ks.length
    · obtain ⟨g, rfl⟩ := HA.out (by omega)
      obtain ⟨c1, c2⟩ := own_cell hkeep hlt
      have HM : Hid ((ks.take (k + 1)).map (·.2) = (ks.take k).map (·.2) ++ [(ks.getD k nofld).2]) := Lib.hid (by rw [List.take_succ_eq_append_getElem hlt, List.map_append, show ks.getD k nofld = ks[k] by simp [List.getD, hlt]]; rfl)
      have HL : Hid (((ks.take k).map (·.2)).length ≤ ks.length) := Lib.hid (by rw [List.length_map, List.length_take]; omega)
      have HP := Lib.hid (row_apart hkeep hown (by decide))
      generalize hx : ks.getD k nofld = f at c1 c2 HM
      clear hx
      obtain ⟨x, y⟩ := f
      unfold sv at c1 c2
      have hL := Strs.svs_len ((ks.take k).map (·.2))
      have hg1 : g < wr.heap.size := lt_of_cell c1
      have HB := Lib.hid hb
      have HK := Lib.hid hkeep
      clear hb hkeep
      have HO := Lib.hid hown
      have hba : Hid (Below wr.heap.size wr (wr.alloc (.cells #[.string ⟨x.toArray⟩, .string ⟨y.toArray⟩] 123))) := Lib.hid ((Below.refl _ _).alloc (Nat.le_refl _) _)
      have hownA := row_below hown hba.out
      have HBA := Lib.hid (HB.out.trans (hba.out.mono HB.out.size))
      have HKA := Lib.hid (row_below HK.out hba.out)
      have hnews : ∀ j u, [(.string ⟨y.toArray⟩ : Value)][j]? = some u → ((wr.alloc (.cells #[.string ⟨x.toArray⟩, .string ⟨y.toArray⟩] 123)).alloc (.cells #[.string ⟨y.toArray⟩] 9)).cell? ((⟨wr.heap.size + 1, 0, none⟩ : Addr).add j) = some u := by
        have h := Strs.news_one (wr.alloc (.cells #[.string ⟨x.toArray⟩, .string ⟨y.toArray⟩] 123)) (.string ⟨y.toArray⟩) 9
        rw [World.size_alloc] at h; exact h
      have HN := Lib.hid hnews
      clear hown hnews HO
      go_wp2_with (at_builtin; refine wpList_append_own _ rfl (.tmp 18) (.tmp 21) 28 rfl w.heap.size 9 i0 (.string ⟨#[]⟩) 1 16 Tryz.underlying28 hi hz0 hz1 hz2 rfl (by decide) _ _ _ rfl (hownA.alloc _) ⟨wr.heap.size + 1, 0, none⟩ 1 1 [.string ⟨y.toArray⟩] rfl rfl HN.out (Strs.sv_one y) (by have := HL.out; unfold maxLen; omega) (by have := HL.out; omega) (by have := HB.out.size; simp; omega) ?_; intro v1 w1 hown1 hg1 _)
      have R := Lib.hid (Strs.push_own (x := y) hownA HBA.out (Nat.le_refl _) hown1 hg1)
      have RK := Lib.hid (row_grown (row_below HKA.out ((Below.refl _ _).alloc (Nat.le_refl _) (.cells #[.string ⟨y.toArray⟩] 9))) hg1 HP.out)
      clear hownA hown1 hg1
      go_wp2
      go_roundw
      case rel => exact ⟨k + 1, by omega, by go_num, by rw [HM.out]; exact R.out.1, RK.out, R.out.2⟩
      case measure => simp [intOf]; omega
    · have HE : Hid ((ks.take k).map (·.2) = vals n l) := Lib.hid (by rw [List.take_of_length_le (by omega)]; exact HV.out)
      generalize (ks.take k).map (·.2) = xs at hown HE
      obtain ⟨a', cp', rfl, _⟩ := shape_of hown
      have HJ := Lib.hid (Tx.impl_join _ _ xs wr (Strs.own_holds hown) (by rw [HE.out]; exact HT.out))
      have HB := Lib.hid hb
      clear hown hb hkeep
      go_wp2_with (fail)
      go_at_call 179
      refine HJ.out.mono ?_
      rintro e w1 ⟨rfl, hb1⟩
      go_wp2
      go_ret2
      exact ⟨ret_get HE.out (by simp), Base.then_below HB.out hb1⟩
end Go.Proofs.YtidmppphlcfpjaaGreatDoor.Flds

/-
  CONTRACT of the model's l5Get: the value of a field.
-/
namespace Go.Proofs.YtidmppphlcfpjaaGreatDoor.Flds
open Go Go.RowKit
set_option linter.unusedVariables false
set_option maxRecDepth 1000000
/-- The value of the fields with this name. -/
def got (n : List UInt8) (l : List Fld) : List UInt8 := Tx.join (vals n l)
def GotEnd (t : List UInt8) (w : World) (e : Ending) (w' : World) : Prop := e = .returned (.string ⟨t.toArray⟩) ∧ Below w.heap.size w w'
theorem vals_nonempty {n : List UInt8} {l : List Fld} (h : ¬ 0 < (vals n l).length) : got n l = [] := by
  unfold got; rw [List.eq_nil_of_length_eq_zero (l := vals n l) (by omega)]; rfl
theorem got_len (n : List UInt8) (l : List Fld) : (got n l).length ≤ 3 * total l := by
  have h1 := Tx.join_len (vals n l) (vals n l).length (Nat.le_refl _)
  rw [List.take_length] at h1
  have h2 := Tx.pre_le (vals n l) (vals n l).length
  have h3 := vals_total n l
  have h4 := vals_le n l l.length
  rw [List.take_length] at h4
  unfold got
  have h5 : l.length ≤ total l := by unfold total; omega
  unfold Strs.total at h3
  omega
theorem shape_lget {w : World} {B : Nat} {v : Value} {l : List Fld} (h : Holds w B v l) : ∃ a cap, v = .slice a l.length cap ∧ (0 < l.length → ∃ b off, a = some ⟨b, off, none⟩ ∧ b < B ∧ At w b off l) := by
  rcases h with ⟨rfl, a, cap, rfl⟩ | ⟨h0, b, off, cap, rfl, hb, _, hc⟩
  · exact ⟨a, cap, rfl, fun h => by simp at h⟩
  · exact ⟨_, cap, rfl, fun _ => ⟨b, off, rfl, hb, hc⟩⟩

theorem spec_lget (v : Value) (B : Nat) (l : List Fld) (n : List UInt8) (w : World) (h : Holds w B v l) (hl : total l ≤ 67108864) :
    Calls Tryz.prog 78 #[v, .string ⟨n.toArray⟩] w (GotEnd (got n l) w) := by
  have HG := Lib.hid (spec_get v B l n w h hl)
  unfold GetEnd at HG
  unfold got GotEnd
  obtain ⟨a, cap, rfl, _⟩ := shape_lget h
  clear h
  generalize decide (0 < (vals n l).length) = q at HG
  generalize Tx.join (vals n l) = t at HG ⊢
  go_enter Tryz.func78, Tryz.ntmps78
  go_wp2_with (fail)
  go_at_call 79
  refine HG.out.mono ?_
  rintro e w1 ⟨rfl, hb1⟩
  have HB1 := Lib.hid hb1
  clear hb1
  go_wp2
  go_ret
  exact ⟨rfl, HB1.out⟩
end Go.Proofs.YtidmppphlcfpjaaGreatDoor.Flds

/-
  CONTRACTS of ParseInt on both sides as a function of the text.
-/
namespace Go.Proofs.YtidmppphlcfpjaaGreatDoor.Pin
open Go Go.RowKit
set_option linter.unusedVariables false
set_option maxRecDepth 1000000

/-- What ParseInt answers, as a function. -/
def pin (l : List UInt8) : Int × Bool := if Lib.itoa (Par.val 0 l : Int) = l ∧ Par.val 0 l ≤ 1000000000000 then ((Par.val 0 l : Int), true) else (0, false)
theorem ps_pin (l : List UInt8) : Par.PS l (pin l).1 (pin l).2 := by
  unfold pin
  split
  · rename_i h; exact Or.inl ⟨rfl, by simp only; omega, by simp only; omega, h.1⟩
  · rename_i h
    refine Or.inr ⟨rfl, rfl, fun u h0 h1 e => h ?_⟩
    have hv := Par.itoa_val h0
    rw [e] at hv
    rw [hv]; exact ⟨e, by omega⟩
theorem pin_nn (l : List UInt8) : 0 ≤ (pin l).1 ∧ (pin l).1 ≤ 1000000000000 := by
  unfold pin; split
  · simp only; omega
  · simp only; omega
theorem pin_nil : pin [] = (0, false) := by
  rcases ps_pin [] with ⟨h1, h2, h3, h4⟩ | ⟨h1, h2, _⟩
  · rw [Par.itoa_nat h2] at h4
    have := Par.dec_val (pin []).1.toNat
    exfalso
    rw [Lib.decDigits] at h4
    split at h4 <;> simp at h4
  · exact Prod.ext h2 h1
def PinEnd (l : List UInt8) (w : World) (e : Ending) (w' : World) : Prop := e = .returned (.tuple #[.int .i64 (pin l).1, .bool (pin l).2]) ∧ Below w.heap.size w w'
theorem pin_end {l : List UInt8} {w : World} {e : Ending} {w' : World} (h : Par.Parsed l w e w') : PinEnd l w e w' := by
  obtain ⟨v, b, hp, rfl, hb⟩ := h
  obtain ⟨rfl, rfl⟩ := hp.uniq (ps_pin l)
  exact ⟨rfl, hb⟩
theorem spec_pin (l : List UInt8) (w : World) (hl : l.length ≤ 4194304) : Calls Tryz.prog 158 #[.string ⟨l.toArray⟩] w (PinEnd l w) :=
  (Par.spec_parse ⟨l.toArray⟩ w (by simp [ByteArray.size]; omega)).mono fun _ _ h => pin_end h
theorem impl_pin (l : List UInt8) (w : World) (hl : l.length ≤ 4194304) (ht : Fmt.Tens w) (he : Par.Errs w) : Calls Tryz.prog 187 #[.string ⟨l.toArray⟩] w (PinEnd l w) :=
  (Par.impl_parse ⟨l.toArray⟩ w (by simp [ByteArray.size]; omega) ht he).mono fun _ _ h => pin_end h
end Go.Proofs.YtidmppphlcfpjaaGreatDoor.Pin

/-
  CONTRACTS of the model's Min.
-/
namespace Go.Proofs.YtidmppphlcfpjaaGreatDoor.Mm
theorem ret_int2 {a b : Int} (h : a = b) : Go.Ending.returned (.int .i64 a) = .returned (.int .i64 b) := by rw [h]
open Go Go.RowKit
set_option linter.unusedVariables false
set_option maxRecDepth 1000000
theorem spec_min (a b : Int) (w : World) : Calls Tryz.prog 47 #[.int .i64 a, .int .i64 b] w fun e w' => e = .returned (.int .i64 (min a b)) ∧ w = w' := by
  by_cases h : a ≤ b
  · have HE := Lib.hid (show a = min a b by omega)
    go_enter Tryz.func47, Tryz.ntmps47
    go_wp2
    all_goals go_ret
    all_goals exact ⟨Go.Proofs.YtidmppphlcfpjaaGreatDoor.Mm.ret_int2 (by omega), rfl⟩
  · go_enter Tryz.func47, Tryz.ntmps47
    go_wp2
    all_goals go_ret
    all_goals exact ⟨Go.Proofs.YtidmppphlcfpjaaGreatDoor.Mm.ret_int2 (by omega), rfl⟩
end Go.Proofs.YtidmppphlcfpjaaGreatDoor.Mm

/-
  CONTRACT of the program's clamp.
-/
namespace Go.Proofs.YtidmppphlcfpjaaGreatDoor.Mm
open Go Go.RowKit
set_option linter.unusedVariables false
set_option maxRecDepth 1000000
theorem ret_clp {a b : Int} (h : a = b) : Ending.returned (.int .i64 a) = .returned (.int .i64 b) := by rw [h]
theorem impl_clamp (n lo hi : Int) (w : World) : Calls Tryz.prog 86 #[.int .i64 n, .int .i64 lo, .int .i64 hi] w fun e w' => e = .returned (.int .i64 (min (max n lo) hi)) ∧ w = w' := by
  by_cases h : lo ≤ n <;> by_cases h2 : n ≤ hi <;> by_cases h3 : lo ≤ hi
  all_goals
    go_enter Tryz.func86, Tryz.ntmps86
    go_wp2
    all_goals go_ret
    all_goals exact ⟨ret_clp (by omega), rfl⟩
end Go.Proofs.YtidmppphlcfpjaaGreatDoor.Mm

/-
  CONTRACTS of both sides' AgeField.
-/
namespace Go.Proofs.YtidmppphlcfpjaaGreatDoor.Age
open Go Go.RowKit
set_option linter.unusedVariables false
set_option maxRecDepth 1000000
/-- The name of the field. -/
def ageN : List UInt8 := [97, 103, 101]
/-- The age that an answer itself says. -/
def agef (l : List Flds.Fld) : Int := min (Pin.pin (Flds.got ageN l)).1 2147483648
def NumEnd (z : Int) (w : World) (e : Ending) (w' : World) : Prop := e = .returned (.int .i64 z) ∧ Below w.heap.size w w'
theorem ret_n {a b : Int} (h : a = b) : Ending.returned (.int .i64 a) = .returned (.int .i64 b) := by rw [h]
theorem agef_bd (l : List Flds.Fld) : 0 ≤ agef l ∧ agef l ≤ 2147483648 := by have := Pin.pin_nn (Flds.got ageN l); unfold agef; omega
/-- a struct of three cells that was laid by a call stays. -/
theorem kept3 {w w1 : World} {T : TypeId} {a b c : Value} (hb : Below (w.alloc (.cells #[a, b, c] T)).heap.size (w.alloc (.cells #[a, b, c] T)) w1) :
    (w1.cell? ⟨w.heap.size, 0, none⟩ = some a ∧ w1.cell? ⟨w.heap.size, 1, none⟩ = some b ∧ w1.cell? ⟨w.heap.size, 2, none⟩ = some c) ∧ Below w.heap.size w w1 := by
  refine ⟨⟨?_, ?_, ?_⟩, ((Below.refl _ _).alloc (Nat.le_refl _) _).trans (hb.mono (by simp))⟩
  · rw [hb.cell (p := ⟨w.heap.size, 0, none⟩) (by simp), World.cell?_alloc_new]; rfl
  · rw [hb.cell (p := ⟨w.heap.size, 1, none⟩) (by simp), World.cell?_alloc_new]; rfl
  · rw [hb.cell (p := ⟨w.heap.size, 2, none⟩) (by simp), World.cell?_alloc_new]; rfl

set_option maxHeartbeats 2000000 in
theorem spec_agef (c : Int) (v : Value) (B : Nat) (l : List Flds.Fld) (b : List UInt8) (w : World) (h : Flds.Holds w B v l) (hB : B ≤ w.heap.size) (hl : Flds.total l ≤ 1048576) :
    Calls Tryz.prog 120 #[.agg #[.int .i64 c, v, .string ⟨b.toArray⟩]] w (NumEnd (agef l) w) := by
  have HB0 : Hid (Below w.heap.size w (w.alloc (.cells #[.int .i64 c, v, .string ⟨b.toArray⟩] 49))) := Lib.hid ((Below.refl _ _).alloc (Nat.le_refl _) _)
  have hg : (Flds.got ageN l).length ≤ 4194304 := by have := Flds.got_len ageN l; omega
  have HG := Lib.hid (Flds.spec_lget v B l ageN _ (Flds.holds_below h (HB0.out.mono hB)) (by omega))
  have HP := Lib.hid (fun W => Pin.spec_pin (Flds.got ageN l) W hg)
  have HE : Hid (agef l = min (Pin.pin (Flds.got ageN l)).1 2147483648) := Lib.hid rfl
  unfold Flds.GotEnd at HG
  unfold Pin.PinEnd at HP
  clear h hl hg
  generalize agef l = z at HE ⊢
  generalize Flds.got ageN l = t at HG HP HE
  generalize Pin.pin t = p at HP HE
  unfold ageN at HG
  unfold NumEnd
  go_enter Tryz.func120, Tryz.ntmps120
  go_wp2_with (fail)
  go_at_call 78
  refine HG.out.mono ?_
  rintro e w1 ⟨rfl, hb1⟩
  have HB1 := Lib.hid (HB0.out.trans (hb1.mono HB0.out.size))
  clear hb1
  go_wp2_with (fail)
  go_at_call 158
  refine (HP.out _).mono ?_
  rintro e w2 ⟨rfl, hb2⟩
  have HB2 := Lib.hid (Base.then_below HB1.out hb2)
  clear hb2
  go_wp2_with (fail)
  go_at_call 47
  refine (Mm.spec_min _ _ _).mono ?_
  rintro e w3 ⟨rfl, rfl⟩
  go_wp2
  go_ret
  exact ⟨ret_n HE.out.symm, HB2.out⟩

set_option maxHeartbeats 2000000 in
theorem impl_agef (c : Int) (v : Value) (B : Nat) (l : List Flds.Fld) (b : List UInt8) (w : World) (h : Flds.Holds w B v l) (hB : B ≤ w.heap.size) (hl : Flds.total l ≤ 1048576) (ht : Fmt.Tens w) (he : Par.Errs w) :
    Calls Tryz.prog 159 #[.agg #[.int .i64 c, v, .string ⟨b.toArray⟩]] w (NumEnd (agef l) w) := by
  have HB0 : Hid (Below w.heap.size w (w.alloc (.cells #[.int .i64 c, v, .string ⟨b.toArray⟩] 49))) := Lib.hid ((Below.refl _ _).alloc (Nat.le_refl _) _)
  have hg : (Flds.got ageN l).length ≤ 4194304 := by have := Flds.got_len ageN l; omega
  have HG := Lib.hid (Flds.impl_get v B l ageN _ (Flds.holds_below h (HB0.out.mono hB)) (Nat.le_trans hB HB0.out.size) hl)
  have HP := Lib.hid (fun W (hb : Below w.heap.size w W) => Pin.impl_pin (Flds.got ageN l) W hg (Fmt.tens_below ht hb) (Par.errs_below he hb))
  have HE : Hid (agef l = min (max (Pin.pin (Flds.got ageN l)).1 0) 2147483648) := Lib.hid (by have := Pin.pin_nn (Flds.got ageN l); unfold agef; omega)
  unfold Flds.GetEnd at HG
  unfold Pin.PinEnd at HP
  clear h hl hg ht he
  have hj : Tx.join (Flds.vals ageN l) = Flds.got ageN l := rfl
  rw [hj] at HG
  clear hj
  generalize agef l = z at HE ⊢
  generalize Flds.got ageN l = t at HG HP HE
  generalize decide (0 < (Flds.vals ageN l).length) = q at HG
  generalize Pin.pin t = p at HP HE
  unfold ageN at HG
  unfold NumEnd
  go_enter Tryz.func159, Tryz.ntmps159
  go_wp2_with (fail)
  go_at_call 151
  refine HG.out.mono ?_
  rintro e w1 ⟨rfl, hb1⟩
  have HB1 := Lib.hid (HB0.out.trans (hb1.mono HB0.out.size))
  clear hb1
  go_wp2_with (fail)
  go_at_call 187
  refine (HP.out _ HB1.out).mono ?_
  rintro e w2 ⟨rfl, hb2⟩
  have HB2 := Lib.hid (Base.then_below HB1.out hb2)
  clear hb2
  go_wp2_with (fail)
  go_at_call 86
  refine (Mm.impl_clamp _ _ _ _).mono ?_
  rintro e w3 ⟨rfl, rfl⟩
  go_wp2
  go_ret
  exact ⟨ret_n HE.out.symm, HB2.out⟩
end Go.Proofs.YtidmppphlcfpjaaGreatDoor.Age

/-
  PLAIN FACTS on leap years.
-/
namespace Go.Proofs.YtidmppphlcfpjaaGreatDoor.Dt
open Go
set_option linter.unusedVariables false
set_option maxRecDepth 1000000

def lpB (y : Int) : Bool := y % 4 == 0 && (y % 100 != 0 || y % 400 == 0)
theorem lp_no {y : Int} (h : y % 4 ≠ 0) : lpB y = false := by unfold lpB; simp [h]
theorem lp_yes {y : Int} (h : y % 4 = 0) (h2 : y % 100 ≠ 0) : lpB y = true := by unfold lpB; simp [h, h2]
theorem lp_cent {y : Int} (h2 : y % 100 = 0) : lpB y = (y % 400 == 0) := by unfold lpB; simp [h2]; intro h; omega
theorem ret_bool {a b : Bool} (h : a = b) : Ending.returned (.bool a) = .returned (.bool b) := by rw [h]
theorem b_yes {a b : Int} (h : a = b) : (a == b) = true := by simp [h]
theorem b_no {a b : Int} (h : a ≠ b) : (a == b) = false := by simp [h]
theorem n_yes {a b : Int} (h : a ≠ b) : (a != b) = true := by simp [h]
theorem n_no {a b : Int} (h : a = b) : (a != b) = false := by simp [h]
end Go.Proofs.YtidmppphlcfpjaaGreatDoor.Dt

/-
  PLAIN FACTS on days, months and years from 1970 on.
-/
namespace Go.Proofs.YtidmppphlcfpjaaGreatDoor.Dt
open Go
set_option linter.unusedVariables false
set_option maxRecDepth 1000000

/-- How many days a year has; a month of it. -/
def yl (y : Int) : Int := if lpB y = true then 366 else 365
def mdays : List Int := [31, 28, 31, 30, 31, 30, 31, 31, 30, 31, 30, 31]
def mdt (k : Nat) : Int := mdays.getD k 0
def dim (y m : Int) : Int := if m = 2 ∧ lpB y = true then 29 else mdt (m - 1).toNat
theorem yl_bd (y : Int) : 365 ≤ yl y ∧ yl y ≤ 366 := by unfold yl; split <;> omega
theorem mdt_bd (k : Nat) (h : k < 12) : 28 ≤ mdt k ∧ mdt k ≤ 31 := by
  have : ∀ k : Fin 12, 28 ≤ mdt k.1 ∧ mdt k.1 ≤ 31 := by decide
  exact this ⟨k, h⟩
theorem dim_bd (y m : Int) (h1 : 1 ≤ m) (h2 : m ≤ 12) : 28 ≤ dim y m ∧ dim y m ≤ 31 := by
  unfold dim; split
  · omega
  · exact mdt_bd _ (by omega)
/-- The days of the n years from 1970 on; of the first n months of a year. -/
def dby : Nat → Int
  | 0 => 0
  | n + 1 => dby n + yl (1970 + n)
def cum (y : Int) : Nat → Int
  | 0 => 0
  | n + 1 => cum y n + dim y (n + 1)
theorem dby_bd (n : Nat) : 365 * n ≤ dby n ∧ dby n ≤ 366 * n := by
  induction n with
  | zero => simp [dby]
  | succ n ih => have := yl_bd (1970 + n); unfold dby; omega
theorem cum_bd (y : Int) (n : Nat) (h : n ≤ 12) : 28 * n ≤ cum y n ∧ cum y n ≤ 31 * n := by
  induction n with
  | zero => simp [cum]
  | succ n ih => have := ih (by omega); have := dim_bd y (n + 1) (by omega) (by omega); unfold cum; omega
theorem dby_mono {a b : Nat} (h : a ≤ b) : dby a ≤ dby b := by
  induction b with
  | zero => have : a = 0 := by omega
            subst this; omega
  | succ b ih =>
    by_cases e : a = b + 1
    · subst e; omega
    · have := ih (by omega); have := yl_bd (1970 + b)
      show dby a ≤ dby b + yl (1970 + b); omega
theorem cum_mono {y : Int} {a b : Nat} (h : a ≤ b) (hb : b ≤ 12) : cum y a ≤ cum y b := by
  induction b with
  | zero => have : a = 0 := by omega
            subst this; omega
  | succ b ih =>
    by_cases e : a = b + 1
    · subst e; omega
    · have := ih (by omega) (by omega); have := dim_bd y (b + 1) (by omega) (by omega)
      show cum y a ≤ cum y b + dim y (b + 1); omega
theorem dby_all : dby 130 = 47482 := by decide +kernel
theorem cum_all (y : Int) : cum y 12 = yl y := by
  have hd : ∀ m : Int, dim y m = if m = 2 then (if lpB y = true then 29 else mdt (m - 1).toNat) else mdt (m - 1).toNat := by
    intro m; unfold dim
    by_cases h1 : m = 2 <;> by_cases h2 : lpB y = true <;> simp [h1, h2]
  unfold yl
  simp only [cum, hd]
  by_cases h : lpB y = true
  · rw [h]; decide
  · rw [show lpB y = false by simpa using h]; decide

/-- The day of a date; -1 where there is none from 1970 to 2099. -/
def dof (y m d : Int) : Int := if 1970 ≤ y ∧ y ≤ 2099 ∧ 1 ≤ m ∧ m ≤ 12 ∧ 1 ≤ d ∧ d ≤ dim y m then d - 1 + dby (y - 1970).toNat + cum y (m - 1).toNat else -1
/-- A day has this date. -/
def CV (day : Int) (y m d : Int) : Prop := 1970 ≤ y ∧ y ≤ 2099 ∧ 1 ≤ m ∧ m ≤ 12 ∧ 1 ≤ d ∧ d ≤ dim y m ∧ day = d - 1 + dby (y - 1970).toNat + cum y (m - 1).toNat
theorem dof_cv {day y m d : Int} (h : CV day y m d) : dof y m d = day := by
  obtain ⟨a, b, c, e, f, g, h⟩ := h
  unfold dof; rw [if_pos ⟨a, b, c, e, f, g⟩, h]
theorem cum_succ (y : Int) {m : Int} (h1 : 1 ≤ m) : cum y m.toNat = cum y (m - 1).toNat + dim y m := by
  obtain ⟨n, rfl⟩ : ∃ n : Nat, m = (n : Int) + 1 := ⟨(m - 1).toNat, by omega⟩
  rw [show ((n : Int) + 1).toNat = n + 1 by omega, show ((n : Int) + 1 - 1).toNat = n by omega]
  rfl
theorem dby_succ {y : Int} (h : 1970 ≤ y) : dby (y - 1970 + 1).toNat = dby (y - 1970).toNat + yl y := by
  obtain ⟨n, rfl⟩ : ∃ n : Nat, y = 1970 + (n : Int) := ⟨(y - 1970).toNat, by omega⟩
  rw [show (1970 + (n : Int) - 1970 + 1).toNat = n + 1 by omega, show (1970 + (n : Int) - 1970).toNat = n by omega]
  rfl
theorem cv_rest {day y m d : Int} (h : CV day y m d) : dby (y - 1970).toNat ≤ day ∧ day < dby (y - 1970 + 1).toNat := by
  obtain ⟨a, b, c, e, f, g, h⟩ := h
  have h0 := cum_bd y (m - 1).toNat (by omega)
  have h1 := cum_succ y c
  have h2 : cum y m.toNat ≤ cum y 12 := cum_mono (by omega) (Nat.le_refl _)
  rw [cum_all] at h2
  rw [dby_succ a]
  omega
theorem cv_uniq {day y m d y' m' d' : Int} (h : CV day y m d) (h' : CV day y' m' d') : y = y' ∧ m = m' ∧ d = d' := by
  have r := cv_rest h
  have r' := cv_rest h'
  have hy : y = y' := by
    rcases Int.lt_trichotomy y y' with hl | he | hl
    · have := dby_mono (a := (y - 1970 + 1).toNat) (b := (y' - 1970).toNat) (by have := h.1; omega); omega
    · exact he
    · have := dby_mono (a := (y' - 1970 + 1).toNat) (b := (y - 1970).toNat) (by have := h'.1; omega); omega
  subst hy
  obtain ⟨a, b, c, e, f, g, h⟩ := h
  obtain ⟨_, _, c', e', f', g', h'⟩ := h'
  have hm : m = m' := by
    rcases Int.lt_trichotomy m m' with hl | he | hl
    · have h1 := cum_succ y c
      have h2 : cum y m.toNat ≤ cum y (m' - 1).toNat := cum_mono (by omega) (by omega)
      omega
    · exact he
    · have h1 := cum_succ y c'
      have h2 : cum y m'.toNat ≤ cum y (m - 1).toNat := cum_mono (by omega) (by omega)
      omega
  subst hm
  exact ⟨rfl, rfl, by omega⟩
theorem cv_mk {day : Int} {n k : Nat} (hn : n ≤ 129) (hk : k ≤ 11) (h0 : 0 ≤ day - dby n - cum (1970 + n) k) (h1 : day - dby n - cum (1970 + n) k < dim (1970 + n) (k + 1)) :
    CV day (1970 + n) (k + 1) (day - dby n - cum (1970 + n) k + 1) := by
  refine ⟨by omega, by omega, by omega, by omega, by omega, by omega, ?_⟩
  rw [show (1970 + (n : Int) - 1970).toNat = n by omega, show ((k : Int) + 1 - 1).toNat = k by omega]; omega
end Go.Proofs.YtidmppphlcfpjaaGreatDoor.Dt

/-
  PLAIN FACTS of numerals that are filled up with zeros; no word of the program stands here.
-/
namespace Go.Proofs.YtidmppphlcfpjaaGreatDoor.Dig
open Go Go.RowKit
set_option linter.unusedVariables false
set_option maxRecDepth 1000000

def mx (n : Int) : Int := if n < 0 then 0 else n
def mn (n : Int) : Int := if n < 20 then n else 20
theorem mx_bd {n : Int} (h1 : n ≤ 9223372036854775807) : 0 ≤ mx n ∧ mx n ≤ 9223372036854775807 := by unfold mx; split <;> omega
theorem mn_bd (n : Int) : mn n ≤ 20 ∧ mn n ≤ n ∧ (mn n = n ∨ mn n = 20) := by unfold mn; split <;> omega
/-- zeros in front, up to k bytes. -/
def zpad (l : List UInt8) (k : Nat) : List UInt8 := List.replicate (k - l.length) 48 ++ l
theorem zpad_done {l : List UInt8} {k : Nat} (h : k ≤ l.length) : zpad l k = l := by
  unfold zpad; rw [show k - l.length = 0 by omega]; rfl
theorem zpad_step {l : List UInt8} {k : Nat} (h : l.length < k) : zpad (48 :: l) k = zpad l k := by
  unfold zpad
  rw [show k - l.length = (k - (48 :: l).length) + 1 by simp; omega, List.replicate_succ', List.append_assoc]; rfl
theorem zpad_len (l : List UInt8) (k : Nat) : (zpad l k).length = max l.length k := by
  unfold zpad; simp; omega
/-- The digits that the document asks for. -/
def digs (n width : Int) : List UInt8 := zpad (Lib.itoa (mx n)) (mn width).toNat
theorem digs_len {n width : Int} (h1 : n ≤ 9223372036854775807) : mn width ≤ (digs n width).length ∧ (digs n width).length ≤ 20 := by
  obtain ⟨b0, b1⟩ := mx_bd h1
  have hl := Fmt.itoa_len (n := mx n) (by omega) b1
  have hb := mn_bd width
  unfold digs
  rw [zpad_len]
  omega
def strLen : Value → Nat | .string b => b.size | _ => 0
end Go.Proofs.YtidmppphlcfpjaaGreatDoor.Dig

/-
  PLAIN FACTS on the texts of dates.
-/
namespace Go.Proofs.YtidmppphlcfpjaaGreatDoor.Dt
open Go Go.RowKit
set_option linter.unusedVariables false
set_option maxRecDepth 1000000

def days7 : List (List UInt8) := [[83, 117, 110, 100, 97, 121], [77, 111, 110, 100, 97, 121], [84, 117, 101, 115, 100, 97, 121], [87, 101, 100, 110, 101, 115, 100, 97, 121], [84, 104, 117, 114, 115, 100, 97, 121], [70, 114, 105, 100, 97, 121], [83, 97, 116, 117, 114, 100, 97, 121]]
def mons12 : List (List UInt8) := [[74, 97, 110], [70, 101, 98], [77, 97, 114], [65, 112, 114], [77, 97, 121], [74, 117, 110], [74, 117, 108], [65, 117, 103], [83, 101, 112], [79, 99, 116], [78, 111, 118], [68, 101, 99]]
def dnm (k : Nat) : List UInt8 := days7.getD k []
def mnm (k : Nat) : List UInt8 := mons12.getD k []
theorem dnm_len {k : Nat} (h : k < 7) : 6 ≤ (dnm k).length ∧ (dnm k).length ≤ 9 := by
  have : ∀ k : Fin 7, 6 ≤ (dnm k.1).length ∧ (dnm k.1).length ≤ 9 := by decide
  exact this ⟨k, h⟩
theorem mnm_len {k : Nat} (h : k < 12) : (mnm k).length = 3 := by
  have : ∀ k : Fin 12, (mnm k.1).length = 3 := by decide
  exact this ⟨k, h⟩
/-- The weekday of a day. -/
def wkd (day : Int) : Nat := ((day % 7 + 4) % 7).toNat
theorem wkd_lt (day : Int) : wkd day < 7 := by unfold wkd; omega
theorem wkd_cast (day : Int) : ((wkd day : Nat) : Int) = (day % 7 + 4) % 7 := by unfold wkd; omega
def clk (s : Int) : List UInt8 := Dig.digs (s / 3600) 2 ++ [58] ++ Dig.digs (s % 3600 / 60) 2 ++ [58] ++ Dig.digs (s % 60) 2
theorem min_eq {s : Int} (h : 0 ≤ s) : s / 60 % 60 = s % 3600 / 60 := by omega
def form1 (t y m d : Int) : List UInt8 := (dnm (wkd (t / 86400))).take 3 ++ [44, 32] ++ Dig.digs d 2 ++ [32] ++ mnm (m - 1).toNat ++ [32] ++ Dig.digs y 4 ++ [32] ++ clk (t % 86400) ++ [32, 71, 77, 84]
theorem dg2 {n : Int} (h : n ≤ 9223372036854775807) (w : Int) : (Dig.digs n w).length ≤ 20 := (Dig.digs_len h).2
theorem clk_len {s : Int} (h0 : 0 ≤ s) (h1 : s ≤ 86399) : (clk s).length ≤ 62 := by
  unfold clk
  have a := dg2 (n := s / 3600) (by omega) 2
  have b := dg2 (n := s % 3600 / 60) (by omega) 2
  have c := dg2 (n := s % 60) (by omega) 2
  simp only [List.length_append, List.length_cons, List.length_nil]; omega
end Go.Proofs.YtidmppphlcfpjaaGreatDoor.Dt

/-
  CONTRACT of the model's Mod: at every two integers of 64 bits it returns the remainder rounded down, 0 for a divisor out of range; the world stays as it was.
-/
namespace Go.Proofs.YtidmppphlcfpjaaGreatDoor.NumDiv
open Go Go.RowKit
set_option linter.unusedVariables false
set_option maxRecDepth 1000000

theorem spec_mod (n m : Int) (w : World) (wn : (Lit.int .i64 n).wf = true) (wm : (Lit.int .i64 m).wf = true) :
    Calls Tryz.prog 167 #[.int .i64 n, .int .i64 m] w fun e w' => e = .returned (.int .i64 (md n m)) ∧ w = w' := by
  by_cases h : m < 1 ∨ 1000000000000 < m
  · rw [md_out h]
    have H := Lib.hid h; clear h
    go_enter Tryz.func167, Tryz.ntmps167
    go_wp2_with (go_at_call 90; refine (in_no _ _ _ _ H.out).mono ?_; rintro e w' ⟨rfl, rfl⟩)
    go_ret
    exact ⟨rfl, rfl⟩
  · have h1 : 1 ≤ m := by omega
    have h2 : m ≤ 1000000000000 := by omega
    rw [md_in h1 h2]
    clear h
    obtain ⟨b1, b2⟩ := tmod_bd n m h1
    have h0 : 0 ≤ n.tmod m + m := by omega
    go_enter Tryz.func167, Tryz.ntmps167
    go_wp2_with (go_at_call 90; refine (in_yes _ _ _ _ h1 h2).mono ?_; rintro e w' ⟨rfl, rfl⟩)
    go_ret
    refine ⟨ret_int ?_, rfl⟩
    rcases tmod_split n m h1 with e | ⟨_, e⟩ <;> rw [e] <;> simp
end Go.Proofs.YtidmppphlcfpjaaGreatDoor.NumDiv
