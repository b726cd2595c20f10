/-
  CONTRACTS AND PLAIN FACTS, several texts in one; each says in its own words what it proves.
-/
import Derived.Test.YtegaakgmfphcaaaGreatDoorSelB
import Derived.Test.YtegaakgmfphcaaaGreatDoorSelF
import Derived.Test.YtegaakgmfphcaaaGreatDoorSelE
import Derived.Test.YtegaakgmfphcaaaGreatDoorSelA
import Derived.LoopTactic
import Derived.Outline
import Derived.Laws.DeepStrings4
set_option linter.unusedSimpArgs false
set_option linter.unusedVariables false

/-
  CONTRACT of the program's JoinList: at every slice of texts that are not too long together it returns the texts with a comma and a space between them; nothing that was there before is changed.
-/
namespace Go.Proofs.YtegaakgmfphcaaaGreatDoor.Tx
open Go Go.RowKit Strs
set_option linter.unusedVariables false
set_option maxRecDepth 1000000

theorem lib_join (v : Value) (B : Nat) (xs : List (List UInt8)) (w : World) (h : Holds w B v xs) (ht : total xs ≤ 67108864) :
    Calls Tryz.prog 54 #[v, .string ⟨#[44, 32]⟩] w (JoinEnd xs w) := by
  have hl : xs.length ≤ 67108864 := by unfold total at ht; omega
  rcases h with ⟨rfl, a, cap, rfl⟩ | ⟨h0, b, off, cap, rfl, _, hcap, hc⟩
  · refine (Tryz.strings_Join_none a cap ⟨#[44, 32]⟩ w).mono ?_
    rintro e w' ⟨rfl, rfl⟩
    exact ⟨rfl, Below.refl _ _⟩
  · have hm : (xs.map (fun x => (⟨x.toArray⟩ : ByteArray))).map (·.data.toList) = xs := by rw [List.map_map]; exact List.map_id'' (fun _ => rfl) xs
    have hlen : (Lib.join xs [44, 32]).length ≤ 140737488355328 := by
      have h1 := join_len xs xs.length (Nat.le_refl _)
      rw [List.take_length] at h1
      have h2 := pre_le xs xs.length
      have : (join xs).length = (Lib.join xs [44, 32]).length := rfl
      unfold total at ht; omega
    have c := Tryz.strings_Join b off cap (xs.map (fun x => (⟨x.toArray⟩ : ByteArray))) ⟨#[44, 32]⟩ w (fun j x hj => by
      rw [List.getElem?_map] at hj
      have hjl : j < xs.length := by
        rcases Nat.lt_or_ge j xs.length with h' | h'
        · exact h'
        · rw [List.getElem?_eq_none h'] at hj; cases hj
      rw [hc j hjl]
      rw [List.getElem?_eq_getElem hjl] at hj
      simp at hj; subst hj
      simp [List.getD, hjl, sv]) (at_lt hc h0) (by simp; omega) (by simpa using hcap) (by rw [hm]; exact hlen)
    rw [hm, List.length_map] at c
    exact c

theorem impl_join (v : Value) (B : Nat) (xs : List (List UInt8)) (w : World) (h : Holds w B v xs) (ht : total xs ≤ 67108864) :
    Calls Tryz.prog 31 #[v] w (JoinEnd xs w) := by
  have c1 := lib_join v B xs w h ht
  unfold JoinEnd at c1 ⊢
  generalize (⟨(join xs).toArray⟩ : ByteArray) = z at c1 ⊢
  clear h
  go_enter Tryz.func31, Tryz.ntmps31
  go_wp2_with (go_at_call 54; refine c1.mono ?_; rintro e w1 ⟨rfl, hb⟩)
  go_ret
  exact ⟨rfl, hb⟩
end Go.Proofs.YtegaakgmfphcaaaGreatDoor.Tx

/-
  CONTRACTS of GetField, the model's and the program's: the joined values of the fields with a name, and whether there are any; nothing that was there before is changed.
-/
namespace Go.Proofs.YtegaakgmfphcaaaGreatDoor.Flds
open Go Go.RowKit
set_option linter.unusedVariables false
set_option maxRecDepth 1000000

def vals (n : List UInt8) (l : List Fld) : List (List UInt8) := (l.filter (fun f => f.1 == n)).map (·.2)
theorem vals_total (n : List UInt8) (l : List Fld) : Strs.total (vals n l) ≤ total l := by
  unfold Strs.total total vals
  induction l with
  | nil => simp
  | cons a r ih =>
    by_cases h : (a.1 == n) = true
    · rw [List.filter_cons_of_pos (by exact h)]; simp [wt] at ih ⊢; omega
    · rw [List.filter_cons_of_neg (by exact h)]; simp [wt] at ih ⊢; omega
theorem vals_more {n : List UInt8} {l : List Fld} {k : Nat} (h : k < l.length) : vals n (l.take (k + 1)) = if (l.getD k nofld).1 = n then vals n (l.take k) ++ [(l.getD k nofld).2] else vals n (l.take k) := by
  unfold vals
  rw [filt_more h]
  by_cases e : (l.getD k nofld).1 = n
  · rw [if_pos e, if_pos (by simpa using e), List.map_append]; rfl
  · rw [if_neg e, if_neg (by simpa using e)]
theorem vals_le (n : List UInt8) (l : List Fld) (k : Nat) : (vals n (l.take k)).length ≤ l.length := by
  unfold vals; rw [List.length_map]; exact filt_le _ l k

def GetEnd (n : List UInt8) (l : List Fld) (w : World) (e : Ending) (w' : World) : Prop := e = .returned (.tuple #[.string ⟨(Tx.join (vals n l)).toArray⟩, .bool (decide (0 < (vals n l).length))]) ∧ Below w.heap.size w w'
theorem ret_get {xs ys : List (List UInt8)} {q : Bool} (h : xs = ys) (hq : q = decide (0 < xs.length)) : Ending.returned (.tuple #[.string ⟨(Tx.join xs).toArray⟩, .bool q]) = .returned (.tuple #[.string ⟨(Tx.join ys).toArray⟩, .bool (decide (0 < ys.length))]) := by rw [← h, hq]
theorem shape_of {w : World} {B : Nat} {v : Value} {T : TypeId} {s n : Nat} {xs : List Value} (h : w.ownsRow B T s v n xs) : ∃ a cap, v = .slice a n cap ∧ (0 < n → ∃ g, a = some ⟨g, 0, none⟩) := by
  rcases h.2 with ⟨rfl, h0⟩ | ⟨g, cap, cur, rfl, _⟩
  · exact ⟨none, 0, by rw [h0], fun h' => by omega⟩
  · exact ⟨_, cap, rfl, fun _ => ⟨g, rfl⟩⟩

/-! The program's. -/
theorem get_keeps (g : Nat) (n : List UInt8) (w : World) (hc : w.cell? ⟨g, 0, none⟩ = some (.string ⟨n.toArray⟩)) : Keeps 30 (.pointer (some ⟨g, 0, none⟩)) (fun f => f.1 == n) w := by
  intro x y wx hb
  have hg := lt_of_cell hc
  have hgx : g < wx.heap.size := Nat.lt_of_lt_of_le hg hb.size
  have hcx : wx.cell? ⟨g, 0, none⟩ = some (.string ⟨n.toArray⟩) := (hb.cell (p := ⟨g, 0, none⟩) hg).trans hc
  have HB := Lib.hid ((Below.refl wx.heap.size wx).alloc (Nat.le_refl _) (.cells #[.string ⟨x.toArray⟩, .string ⟨y.toArray⟩] 39))
  clear hb hc hg
  by_cases e : x = n
  · subst e
    go_enter Tryz.func30, Tryz.ntmps30
    go_wp2
    go_ret
    exact ⟨by simp, HB.out⟩
  · have hq : (x == n) = false := by simpa using e
    go_enter Tryz.func30, Tryz.ntmps30
    go_wp2
    go_ret
    exact ⟨by simp [e], HB.out⟩

theorem row_apart {w : World} {B B' n n' : Nat} {T T' : TypeId} {sz sz' : Nat} {v v' : Value} {xs xs' : List Value} (h : w.ownsRow B T sz v n xs) (h' : w.ownsRow B' T' sz' v' n' xs') (hT : T ≠ T') : ∀ g, v.ownBlock = some g → some g ≠ v'.ownBlock := by
  intro g hg hg'
  rcases h.2 with ⟨rfl, _⟩ | ⟨a, cap, cur, rfl, _, h2, _⟩
  · cases hg
  · rcases h'.2 with ⟨rfl, _⟩ | ⟨a', cap', cur', rfl, _, h2', _⟩
    · cases hg'
    · cases hg; cases hg'
      rw [h2] at h2'
      simp at h2'
      exact hT h2'.2

set_option maxHeartbeats 1000000 in
theorem impl_get (v : Value) (B : Nat) (l : List Fld) (n : List UInt8) (w : World) (h : Holds w B v l) (hB : B ≤ w.heap.size) (hl : total l ≤ 1048576) :
    Calls Tryz.prog 10 #[v, .string ⟨n.toArray⟩] w (GetEnd n l w) := by
  have hmf : ∀ (fn : Fn) (first cap : Array Value) (w : World), (Instr.makeFunc fn first cap).run Tryz.prog w = .ok (.func fn first cap) w := fun _ _ _ _ => rfl
  obtain ⟨i0, hi, hz0, hz1, hz2⟩ := info_parts Strs.info_str
  have hll : l.length ≤ 1048576 := by unfold total at hl; omega
  have HT : Hid (Strs.total (vals n l) ≤ 67108864) := Lib.hid (Nat.le_trans (vals_total n l) (by omega))
  have hb2 : Below w.heap.size w ((w.alloc (.cells #[.string ⟨n.toArray⟩] 9)).alloc (.cells #[] 9)) := ((Below.refl _ _).alloc (Nat.le_refl _) _).alloc (by simp) _
  have hcn : ((w.alloc (.cells #[.string ⟨n.toArray⟩] 9)).alloc (.cells #[] 9)).cell? ⟨w.heap.size, 0, none⟩ = some (.string ⟨n.toArray⟩) := by
    rw [World.cell?_alloc_past _ _ _ (by simp), World.cell?_alloc_at _ _ _ _ rfl]; rfl
  have hlit : Strs.Own ((w.alloc (.cells #[.string ⟨n.toArray⟩] 9)).alloc (.cells #[] 9)) w.heap.size (.slice (some ⟨w.heap.size + 1, 0, none⟩) 0 0) [] := by
    have h := World.ownsRow_lit (e := 9) (size := 1) (base := w.heap.size) (w.alloc (.cells #[.string ⟨n.toArray⟩] 9)) #[] 0 (by rw [World.size_alloc]; omega) (by decide) rfl
    rw [World.size_alloc] at h; exact h
  have HF := Lib.hid (filter_any 30 (.pointer (some ⟨w.heap.size, 0, none⟩)) (fun f => f.1 == n) v B l _ enters_get (get_keeps w.heap.size n _ hcn) (holds_below h (hb2.mono hB)) hll)
  have HL := Lib.hid (And.intro hlit hb2)
  clear hlit hb2 hcn h
  go_enter Tryz.func10, Tryz.ntmps10
  go_wp2_with (fail)
  go_at_call 29
  refine HF.out.mono ?_
  rintro e w3 ⟨v3, rfl, hown3, hb3⟩
  have hz3 := hb3.size
  simp only [World.size_alloc] at hz3
  have HS := Lib.hid (row_below HL.out.1 hb3)
  have HB := Lib.hid (HL.out.2.trans (hb3.mono (by simp; omega)))
  have HK := Lib.hid (own_mono hown3 (B' := w.heap.size) (by simp; omega))
  have hkn : Hid ((l.filter (fun f => f.1 == n)).length ≤ 1048576) := Lib.hid (Nat.le_trans (List.length_filter_le _ _) hll)
  have HV : Hid ((l.filter (fun f => f.1 == n)).map (·.2) = vals n l) := Lib.hid rfl
  obtain ⟨a, cp, rfl, ha⟩ := shape_of hown3
  clear hb3 hown3 HL HF
  generalize l.filter (fun f => f.1 == n) = ks at HK hkn HV ha
  have HA := Lib.hid ha
  have hkn' := hkn.out
  clear ha hz3
  go_wp2
  go_loopw [6, 14] (fun u i wr => ∃ k : Nat, k ≤ ks.length ∧ i = .int .i64 (k : Int) ∧ Strs.Own wr w.heap.size u ((ks.take k).map (·.2)) ∧ Own wr w.heap.size (.slice a ks.length cp) ks ∧ Below w.heap.size w wr) (fun _ i _ => ks.length - (intOf i).toNat)
  case atStart => exact ⟨0, Nat.zero_le _, rfl, HS.out, HK.out, HB.out⟩
  case round =>
    clear HS HK HB
    obtain ⟨k, hk, rfl, hown, hkeep, hb⟩ := hrel
    by_cases hlt : k < ks.length
    · obtain ⟨g, rfl⟩ := HA.out (by omega)
      obtain ⟨c1, c2⟩ := own_cell hkeep hlt
      have HM : Hid ((ks.take (k + 1)).map (·.2) = (ks.take k).map (·.2) ++ [(ks.getD k nofld).2]) := Lib.hid (by rw [List.take_succ_eq_append_getElem hlt, List.map_append, show ks.getD k nofld = ks[k] by simp [List.getD, hlt]]; rfl)
      have HL : Hid (((ks.take k).map (·.2)).length ≤ ks.length) := Lib.hid (by rw [List.length_map, List.length_take]; omega)
      have HP := Lib.hid (row_apart hkeep hown (by decide))
      generalize hx : ks.getD k nofld = f at c1 c2 HM
      clear hx
      obtain ⟨x, y⟩ := f
      unfold sv at c1 c2
      have hL := Strs.svs_len ((ks.take k).map (·.2))
      have hg1 : g < wr.heap.size := lt_of_cell c1
      have HB := Lib.hid hb
      have HK := Lib.hid hkeep
      clear hb hkeep
      have HO := Lib.hid hown
      have hba : Hid (Below wr.heap.size wr (wr.alloc (.cells #[.string ⟨x.toArray⟩, .string ⟨y.toArray⟩] 39))) := Lib.hid ((Below.refl _ _).alloc (Nat.le_refl _) _)
      have hownA := row_below hown hba.out
      have HBA := Lib.hid (HB.out.trans (hba.out.mono HB.out.size))
      have HKA := Lib.hid (row_below HK.out hba.out)
      have hnews : ∀ j u, [(.string ⟨y.toArray⟩ : Value)][j]? = some u → ((wr.alloc (.cells #[.string ⟨x.toArray⟩, .string ⟨y.toArray⟩] 39)).alloc (.cells #[.string ⟨y.toArray⟩] 9)).cell? ((⟨wr.heap.size + 1, 0, none⟩ : Addr).add j) = some u := by
        have h := Strs.news_one (wr.alloc (.cells #[.string ⟨x.toArray⟩, .string ⟨y.toArray⟩] 39)) (.string ⟨y.toArray⟩) 9
        rw [World.size_alloc] at h; exact h
      have HN := Lib.hid hnews
      clear hown hnews HO
      go_wp2_with (at_builtin; refine wpList_append_own _ rfl (.tmp 18) (.tmp 21) 27 rfl w.heap.size 9 i0 (.string ⟨#[]⟩) 1 16 Tryz.underlying27 hi hz0 hz1 hz2 rfl (by decide) _ _ _ rfl (hownA.alloc _) ⟨wr.heap.size + 1, 0, none⟩ 1 1 [.string ⟨y.toArray⟩] rfl rfl HN.out (Strs.sv_one y) (by have := HL.out; unfold maxLen; omega) (by have := HL.out; omega) (by have := HB.out.size; simp; omega) ?_; intro v1 w1 hown1 hg1 _)
      have R := Lib.hid (Strs.push_own (x := y) hownA HBA.out (Nat.le_refl _) hown1 hg1)
      have RK := Lib.hid (row_grown (row_below HKA.out ((Below.refl _ _).alloc (Nat.le_refl _) (.cells #[.string ⟨y.toArray⟩] 9))) hg1 HP.out)
      clear hownA hown1 hg1
      go_wp2
      go_roundw
      case rel => exact ⟨k + 1, by omega, by go_num, by rw [HM.out]; exact R.out.1, RK.out, R.out.2⟩
      case measure => simp [intOf]; omega
    · have HE : Hid ((ks.take k).map (·.2) = vals n l) := Lib.hid (by rw [List.take_of_length_le (by omega)]; exact HV.out)
      generalize (ks.take k).map (·.2) = xs at hown HE
      obtain ⟨a', cp', rfl, _⟩ := shape_of hown
      have HJ := Lib.hid (Tx.impl_join _ _ xs wr (Strs.own_holds hown) (by rw [HE.out]; exact HT.out))
      have HB := Lib.hid hb
      clear hown hb hkeep
      go_wp2_with (fail)
      go_at_call 31
      refine HJ.out.mono ?_
      rintro e w1 ⟨rfl, hb1⟩
      go_wp2
      go_ret2
      exact ⟨ret_get HE.out (by simp), Base.then_below HB.out hb1⟩
end Go.Proofs.YtegaakgmfphcaaaGreatDoor.Flds

/-
  CONTRACT of the model's l5Get: the value of a field.
-/
namespace Go.Proofs.YtegaakgmfphcaaaGreatDoor.Flds
open Go Go.RowKit
set_option linter.unusedVariables false
set_option maxRecDepth 1000000
/-- The value of the fields with this name. -/
def got (n : List UInt8) (l : List Fld) : List UInt8 := Tx.join (vals n l)
def GotEnd (t : List UInt8) (w : World) (e : Ending) (w' : World) : Prop := e = .returned (.string ⟨t.toArray⟩) ∧ Below w.heap.size w w'
theorem vals_nonempty {n : List UInt8} {l : List Fld} (h : ¬ 0 < (vals n l).length) : got n l = [] := by
  unfold got; rw [List.eq_nil_of_length_eq_zero (l := vals n l) (by omega)]; rfl
theorem got_len (n : List UInt8) (l : List Fld) : (got n l).length ≤ 3 * total l := by
  have h1 := Tx.join_len (vals n l) (vals n l).length (Nat.le_refl _)
  rw [List.take_length] at h1
  have h2 := Tx.pre_le (vals n l) (vals n l).length
  have h3 := vals_total n l
  have h4 := vals_le n l l.length
  rw [List.take_length] at h4
  unfold got
  have h5 : l.length ≤ total l := by unfold total; omega
  unfold Strs.total at h3
  omega
theorem shape_lget {w : World} {B : Nat} {v : Value} {l : List Fld} (h : Holds w B v l) : ∃ a cap, v = .slice a l.length cap ∧ (0 < l.length → ∃ b off, a = some ⟨b, off, none⟩ ∧ b < B ∧ At w b off l) := by
  rcases h with ⟨rfl, a, cap, rfl⟩ | ⟨h0, b, off, cap, rfl, hb, _, hc⟩
  · exact ⟨a, cap, rfl, fun h => by simp at h⟩
  · exact ⟨_, cap, rfl, fun _ => ⟨b, off, rfl, hb, hc⟩⟩

end Go.Proofs.YtegaakgmfphcaaaGreatDoor.Flds

/-
  PLAIN FACTS on the bytes of a text, one by one.
-/
namespace Go.Proofs.YtegaakgmfphcaaaGreatDoor.Tx
open Go
set_option linter.unusedVariables false
set_option maxRecDepth 1000000

theorem take_snoc (s : ByteArray) (k : Nat) (h : k < s.size) : s.data.toList.take (k + 1) = s.data.toList.take k ++ [s[k]] := by
  rw [List.take_succ_eq_append_getElem (by simpa using h)]; rfl
theorem drop_cons (s : ByteArray) (k : Nat) (h : k < s.size) : s.data.toList.drop k = s[k] :: s.data.toList.drop (k + 1) := by
  rw [List.drop_eq_getElem_cons (by simpa using h)]; rfl
theorem list_len (s : ByteArray) : s.data.toList.length = s.size := by rw [Array.length_toList]; rfl
theorem eq_nat {c : UInt8} {n : Nat} (hn : n < 256) : ((c.toNat : Int) == (n : Int)) = (c == UInt8.ofNat n) := by
  rw [Bool.eq_iff_iff, beq_iff_eq, beq_iff_eq]
  constructor
  · intro h; exact UInt8.toNat_inj.1 (by simp; omega)
  · intro h; rw [h]; simp; omega
theorem e34 (c : UInt8) : ((c.toNat : Int) == 34) = (c == 34) := eq_nat (n := 34) (by omega)
theorem e92 (c : UInt8) : ((c.toNat : Int) == 92) = (c == 92) := eq_nat (n := 92) (by omega)
theorem e44 (c : UInt8) : ((c.toNat : Int) == 44) = (c == 44) := eq_nat (n := 44) (by omega)

end Go.Proofs.YtegaakgmfphcaaaGreatDoor.Tx

/-
  CONTRACTS of both sides' TrimText: at every text each returns it without the blanks at its beginning and its end; nothing that was there before is changed.
-/
namespace Go.Proofs.YtegaakgmfphcaaaGreatDoor.Tx
open Go Go.RowKit
set_option linter.unusedVariables false
set_option maxRecDepth 1000000

theorem impl_trim (s : ByteArray) (w : World) (hs : s.size ≤ 9223372036854775807) :
    Calls Tryz.prog 72 #[.string s] w fun e w' => e = .returned (.string ⟨(trim s.data.toList).toArray⟩) ∧ Below w.heap.size w w' := by
  have hcon := Tryz.strings_Trim_laid s ⟨#[32, 9]⟩ w hs (by decide) (ascii_of_all (by decide))
  change Calls Tryz.prog 88 _ _ (fun e w' => e = .returned (.string ⟨(Lib.trimS s.data.toList [32, 9]).toArray⟩) ∧ Below w.heap.size w w') at hcon
  rw [trim_set] at hcon
  generalize (⟨(trim s.data.toList).toArray⟩ : ByteArray) = r at hcon ⊢
  go_enter Tryz.func72, Tryz.ntmps72
  go_wp2_with (go_at_call 88; refine hcon.mono ?_; rintro e w' ⟨rfl, hB⟩)
  go_ret
  exact ⟨rfl, hB⟩

def slen : Value → Nat
  | .string s => s.size
  | _ => 0
theorem ret_str {a b : List UInt8} (h : a = b) : Ending.returned (.string ⟨a.toArray⟩) = .returned (.string ⟨b.toArray⟩) := by rw [h]
theorem empty_eq {x : ByteArray} (h : x.size = 0) : x.data.toList = [] := List.eq_nil_of_length_eq_zero (by rw [Array.length_toList]; exact h)
theorem ret_trim {x : ByteArray} {a : List UInt8} (h : [] = a) (hx : x.data.toList = []) : Ending.returned (.string x) = .returned (.string ⟨a.toArray⟩) := by
  subst h
  have : x = ⟨#[]⟩ := by
    have : x.data = #[] := by simpa using hx
    cases x; simp_all
  rw [this]
theorem ret_bytes {x : ByteArray} {a : List UInt8} (h : x.data.toList = a) : Ending.returned (.string x) = .returned (.string ⟨a.toArray⟩) := by subst h; simp
theorem cut_front {x : ByteArray} {n : Nat} (h : n ≤ x.size) : (x.extract 0 n).data.toList = x.data.toList.take n := by simp
theorem cut_size {x : ByteArray} {n : Nat} (h : n ≤ x.size) : (x.extract 0 n).size = n := by simp; omega
theorem cut_one (c : UInt8) (r : List UInt8) : Value.string ((⟨(c :: r).toArray⟩ : ByteArray).extract 1 (r.length + 1)) = .string ⟨r.toArray⟩ := by
  congr 1
  have : ((⟨(c :: r).toArray⟩ : ByteArray).extract 1 (r.length + 1)).data = r.toArray := by simp
  exact ByteArray.ext this
theorem last_split {x : ByteArray} {n : Nat} (hn : x.size = n + 1) (h : n < x.size) : x.data.toList = x.data.toList.take n ++ [x[n]] := by
  have e : x.data.toList.take (n + 1) = x.data.toList := List.take_of_length_le (by rw [Array.length_toList]; have : x.data.size = x.size := rfl; omega)
  have s := List.take_succ_eq_append_getElem (l := x.data.toList) (i := n) (by rw [Array.length_toList]; exact h)
  rw [e] at s
  exact s
theorem last_no {x : ByteArray} {n : Nat} (hn : x.size = n + 1) (h : n < x.size) (hb : blk x[n] = false) : trimr x.data.toList = x.data.toList := by
  rw [last_split hn h]; exact trimr_snoc_no hb
theorem last_yes {x : ByteArray} {n : Nat} (hn : x.size = n + 1) (h : n < x.size) (hb : blk x[n] = true) : trimr x.data.toList = trimr (x.data.toList.take n) := by
  conv => lhs; rw [last_split hn h]
  exact trimr_snoc_blk hb

end Go.Proofs.YtegaakgmfphcaaaGreatDoor.Tx

/-
  CONTRACTS of the program's quoteEnd, addPart and SplitList: at every text SplitList returns the parts between the commas outside quoted strings, trimmed, without the empty ones, in memory of its own; nothing that was there before is changed.
-/
namespace Go.Proofs.YtegaakgmfphcaaaGreatDoor.Tx
open Go Go.RowKit
set_option linter.unusedVariables false
set_option maxRecDepth 1000000

/-! where a quoted string ends -/
def QP (s : ByteArray) (Q k : Nat) : Prop := (k ≤ s.size ∧ k + qlen (s.data.toList.drop k) = Q) ∨ (k = s.size + 1 ∧ Q = s.size)
theorem qp_le {s : ByteArray} {Q k : Nat} (h : QP s Q k) : k ≤ s.size + 1 := by rcases h with h | h <;> omega
theorem qp_quote {s : ByteArray} {Q k : Nat} (h : QP s Q k) (hk : k < s.size) (hc : s[k] = 34) : k = Q := by
  rcases h with ⟨_, h⟩ | h
  · rw [drop_cons s k hk, qlen_cons, if_pos (by simp [hc])] at h; omega
  · omega
theorem qp_esc {s : ByteArray} {Q k : Nat} (h : QP s Q k) (hk : k < s.size) (hc : s[k] = 92) : QP s Q (k + 1 + 1) := by
  rcases h with ⟨_, h⟩ | h
  · rw [drop_cons s k hk, qlen_cons, if_neg (by rw [hc]; decide), if_pos (by rw [hc]; decide)] at h
    by_cases h1 : k + 1 < s.size
    · rw [drop_cons s (k + 1) h1, if_neg (by simp), List.drop_succ_cons, List.drop_zero] at h
      exact Or.inl ⟨by omega, by omega⟩
    · rw [List.drop_eq_nil_of_le (by rw [list_len]; omega), if_pos (by simp)] at h
      exact Or.inr ⟨by omega, by omega⟩
  · omega
theorem qp_plain {s : ByteArray} {Q k : Nat} (h : QP s Q k) (hk : k < s.size) (h1 : s[k] ≠ 34) (h2 : s[k] ≠ 92) : QP s Q (k + 1) := by
  rcases h with ⟨_, h⟩ | h
  · rw [drop_cons s k hk, qlen_cons, if_neg (by simpa using h1), if_neg (by simpa using h2)] at h
    exact Or.inl ⟨by omega, by omega⟩
  · omega
theorem qp_end {s : ByteArray} {Q k : Nat} (h : QP s Q k) (hk : s.size ≤ k) : s.size = Q := by
  rcases h with ⟨h0, h⟩ | h
  · have : k = s.size := by omega
    rw [List.drop_eq_nil_of_le (by rw [list_len]; omega), qlen_nil] at h; omega
  · omega
theorem ret_nat {a b : Nat} (h : a = b) : Ending.returned (.int .i64 (a : Int)) = .returned (.int .i64 (b : Int)) := by rw [h]

set_option maxHeartbeats 1000000 in
theorem quote_end (s : ByteArray) (st Q : Nat) (w : World) (hs : s.size ≤ 4194304) (h0 : st < s.size) (hQ : QP s Q (st + 1)) :
    Calls Tryz.prog 51 #[.string s, .int .i64 (st : Int)] w fun e w' => e = .returned (.int .i64 (Q : Int)) ∧ w = w' := by
  have HQ := Lib.hid hQ
  clear hQ
  go_enter Tryz.func51, Tryz.ntmps51
  go_wp2
  go_loop [5] (fun i => ∃ k : Nat, k ≤ s.size + 1 ∧ i = .int .i64 (k : Int) ∧ QP s Q k) (fun i => s.size + 1 - (intOf i).toNat)
  case atStart => exact ⟨st + 1, by omega, by go_num, HQ.out⟩
  case round =>
    clear HQ
    obtain ⟨k, hk, rfl, hq⟩ := hrel
    have HQ := Lib.hid hq
    clear hq
    by_cases hlt : k < s.size
    · by_cases hc : s[k] = 34
      · have h34 : ((s[k].toNat : Int) == 34) = true := by rw [e34]; simp [hc]
        have HE := Lib.hid (qp_quote HQ.out hlt hc)
        clear hc
        go_wp2
        go_ret
        exact ⟨ret_nat HE.out, rfl⟩
      · have h34 : ((s[k].toNat : Int) == 34) = false := by rw [e34]; simpa using hc
        by_cases hc2 : s[k] = 92
        · have h92 : ((s[k].toNat : Int) == 92) = true := by rw [e92]; simp [hc2]
          have HE := Lib.hid (qp_esc HQ.out hlt hc2)
          have HL := Lib.hid (qp_le HE.out)
          clear hc hc2
          go_wp2
          go_round
          case rel => exact ⟨k + 1 + 1, HL.out, by go_num, HE.out⟩
          case measure => simp [intOf]; omega
        · have h92 : ((s[k].toNat : Int) == 92) = false := by rw [e92]; simpa using hc2
          have HE := Lib.hid (qp_plain HQ.out hlt hc hc2)
          clear hc hc2
          go_wp2
          go_round
          case rel => exact ⟨k + 1, by omega, by go_num, HE.out⟩
          case measure => simp [intOf]; omega
    · have HE := Lib.hid (qp_end HQ.out (by omega))
      go_wp2
      go_ret
      exact ⟨ret_nat HE.out, rfl⟩

/-! one more part -/
theorem own_below {w w' : World} {B : Nat} {v : Value} {xs : List (List UInt8)} (h : Strs.Own w B v xs) (hb : Below w.heap.size w w') : Strs.Own w' B v xs := by
  obtain ⟨hl, hc⟩ := h
  refine ⟨hl, ?_⟩
  rcases hc with h0 | ⟨g, cap, cur, rfl, h1, h2, h3⟩
  · exact Or.inl h0
  · have hlt : g < w.heap.size := by
      rcases Nat.lt_or_ge g w.heap.size with h' | h'
      · exact h'
      · rw [Array.getElem?_eq_none h'] at h2; cases h2
    exact Or.inr ⟨g, cap, cur, rfl, h1, by rw [hb.block g hlt]; exact h2, h3⟩
def Added (B : Nat) (xs : List (List UInt8)) (w : World) (e : Ending) (w' : World) : Prop := ∃ v, e = .returned v ∧ Strs.Own w' B v xs ∧ Below B w w'

set_option maxHeartbeats 1000000 in
theorem add_part (s : ByteArray) (B : Nat) (v : Value) (xs : List (List UInt8)) (w : World) (hs : s.size ≤ 4194304) (hx : xs.length ≤ 8000000) (hown : Strs.Own w B v xs) (hB : B ≤ w.heap.size) :
    Calls Tryz.prog 52 #[v, .string s] w (Added B (xs ++ keep [s.data.toList]) w) := by
  obtain ⟨i0, hi, hz0, hz1, hz2⟩ := info_parts Strs.info_str
  have c1 := impl_trim s w (by omega)
  rw [keep_one]
  generalize trim s.data.toList = t at c1 ⊢
  have HO := Lib.hid hown
  clear hown
  cases t with
  | nil =>
    rw [if_pos rfl, List.append_nil]
    go_enter Tryz.func52, Tryz.ntmps52
    go_wp2_with (fail)
    go_at_call 72
    refine c1.mono ?_
    rintro e w1 ⟨rfl, hb1⟩
    have HE := Lib.hid (And.intro (own_below HO.out hb1) (hb1.mono hB))
    clear hb1 HO
    go_wp2
    go_ret
    exact ⟨_, rfl, HE.out.1, HE.out.2⟩
  | cons c r =>
    rw [if_neg (by simp)]
    go_enter Tryz.func52, Tryz.ntmps52
    go_wp2_with (fail)
    go_at_call 72
    refine c1.mono ?_
    rintro e w1 ⟨rfl, hb1⟩
    have hown1 := own_below HO.out hb1
    have hs1 := hb1.size
    have HB := Lib.hid (hb1.mono hB)
    have hlen : (Strs.svs xs).length = xs.length := Strs.svs_len xs
    clear hb1 HO
    go_wp2_with (at_builtin; refine wpList_append_own _ rfl (.tmp 10) (.tmp 12) 27 rfl B 9 i0 (.string ⟨#[]⟩) 1 16 Tryz.underlying27 hi hz0 hz1 hz2 rfl (by decide) _ _ _ rfl (hown1.alloc _) ⟨w1.heap.size, 0, none⟩ 1 1 [Strs.sv (c :: r)] rfl rfl (Strs.news_one _ _ _) (Strs.sv_one _) (by unfold maxLen; omega) (by omega) (by simp; omega) ?_; intro v' w2 hown' hgrow _)
    have HE : Hid (Strs.Own w2 B v' (xs ++ [c :: r]) ∧ Below B w1 w2) := Lib.hid ⟨by show w2.ownsRow B 9 1 v' (xs ++ [c :: r]).length (Strs.svs (xs ++ [c :: r])); rw [List.length_append, Strs.svs_more]; exact hown', ((Below.refl B w1).alloc (by omega) _).grown hgrow (by simp; omega) (fun k e => (hown1.lt k e).1)⟩
    clear hown1 hown' hgrow
    go_wp2
    go_ret
    exact ⟨_, rfl, HE.out.1, HB.out.trans HE.out.2⟩

/-! the parts -/
def seg (l : List UInt8) (f k : Nat) : List UInt8 := (l.drop f).take (k - f)
theorem seg_same (l : List UInt8) (k : Nat) : seg l k k = [] := by unfold seg; simp
theorem seg_all {l : List UInt8} {f k : Nat} (h : l.length ≤ k) : seg l f k = l.drop f := by unfold seg; exact List.take_of_length_le (by rw [List.length_drop]; omega)
theorem seg_more {l : List UInt8} {f k m : Nat} (h : f ≤ k) : seg l f (k + m) = seg l f k ++ (l.drop k).take m := by
  unfold seg
  rw [show k + m - f = (k - f) + m by omega, List.take_add, List.drop_drop, show f + (k - f) = k by omega]
theorem seg_ext {s : ByteArray} {f k : Nat} : (s.extract f k).data.toList = seg s.data.toList f k := by unfold seg; simp
theorem seg_tail {s : ByteArray} {f k : Nat} (h : s.size ≤ k) : (s.extract f s.size).data.toList = seg s.data.toList f k := by
  rw [seg_ext]; unfold seg
  rw [List.take_of_length_le (by rw [List.length_drop, list_len]; exact Nat.le_refl _), List.take_of_length_le (by rw [List.length_drop, list_len]; omega)]
theorem keep_cons (x : List UInt8) (L : List (List UInt8)) : keep (x :: L) = keep [x] ++ keep L := keep_append [x] L

/-- The state of SplitList: k bytes are read, the part that is open began at f; xs are put down. -/
def SP (s : ByteArray) (k f : Nat) (xs : List (List UInt8)) : Prop := f ≤ k ∧ f ≤ s.size ∧ xs.length ≤ k ∧ xs ++ keep (push (seg s.data.toList f k) (cuts false (s.data.toList.drop k))) = split s.data.toList
theorem sp_start (s : ByteArray) : SP s 0 0 [] := ⟨Nat.le_refl _, Nat.zero_le _, Nat.le_refl _, by rw [seg_same, push_nil, List.drop_zero]; rfl⟩
theorem sp_plain {s : ByteArray} {k f : Nat} {xs : List (List UInt8)} (h : SP s k f xs) (hk : k < s.size) (h1 : s[k] ≠ 34) (h2 : s[k] ≠ 44) : SP s (k + 1) f xs := by
  obtain ⟨a, b, b', c⟩ := h
  refine ⟨by omega, b, by omega, ?_⟩
  rw [drop_cons s k hk, cuts_plain false _ (fun e => by cases e) h1 (fun _ => h2), push_push] at c
  rw [seg_more a, drop_cons s k hk]
  exact c
theorem sp_quote {s : ByteArray} {k f Q : Nat} {xs : List (List UInt8)} (h : SP s k f xs) (hk : k < s.size) (h1 : s[k] = 34) (hQ : Q = k + 1 + qlen (s.data.toList.drop (k + 1))) : Q ≤ s.size ∧ SP s (Q + 1) f xs := by
  obtain ⟨a, b, b', c⟩ := h
  obtain ⟨q1, q2⟩ := cuts_qlen _ (s.data.toList.drop (k + 1)) (Nat.le_refl _)
  have hl : (s.data.toList.drop (k + 1)).length = s.size - (k + 1) := by rw [List.length_drop, list_len]
  refine ⟨by omega, by omega, b, by omega, ?_⟩
  rw [drop_cons s k hk, h1, cuts_quote false _ rfl] at c
  show _ ++ keep (push (seg _ f (Q + 1)) (cuts false (List.drop (Q + 1) _))) = _
  have e2 : s.data.toList.drop (k + (1 + (qlen (s.data.toList.drop (k + 1)) + 1))) = (s.data.toList.drop (k + 1)).drop (qlen (s.data.toList.drop (k + 1)) + 1) := by
    rw [List.drop_drop]; congr 1; omega
  rw [show Q + 1 = k + (1 + (qlen (s.data.toList.drop (k + 1)) + 1)) by omega, seg_more a, e2]
  have e1 : (s.data.toList.drop k).take (1 + (qlen (s.data.toList.drop (k + 1)) + 1)) = 34 :: (s.data.toList.drop (k + 1)).take (qlen (s.data.toList.drop (k + 1)) + 1) := by
    rw [drop_cons s k hk, h1, Nat.add_comm 1, List.take_succ_cons]
  rw [e1]
  have hq2 : cuts (!false) (s.data.toList.drop (k + 1)) = _ := q2
  rw [hq2] at c
  generalize s.data.toList.drop (k + 1) = r at *
  by_cases hq : qlen r < r.length
  · rw [if_pos hq, push_push, push_push] at c
    rw [List.append_assoc] at c
    exact c
  · rw [if_neg hq] at c
    rw [List.drop_eq_nil_of_le (by omega), cuts_nil, List.take_of_length_le (by omega)]
    simpa [push] using c
theorem sp_comma {s : ByteArray} {k f : Nat} {xs : List (List UInt8)} (h : SP s k f xs) (hk : k < s.size) (h1 : s[k] = 44) : SP s (k + 1) (k + 1) (xs ++ keep [(s.extract f k).data.toList]) := by
  obtain ⟨a, b, b', c⟩ := h
  have hkl : (keep [(s.extract f k).data.toList]).length ≤ 1 := by rw [keep_one]; split <;> simp
  refine ⟨Nat.le_refl _, by omega, by rw [List.length_append]; omega, ?_⟩
  rw [drop_cons s k hk, cuts_comma _ h1] at c
  have : push (seg s.data.toList f k) ([] :: cuts false (s.data.toList.drop (k + 1))) = seg s.data.toList f k :: cuts false (s.data.toList.drop (k + 1)) := by simp [push]
  rw [this, keep_cons] at c
  rw [seg_same, push_nil, seg_ext, List.append_assoc]
  exact c
theorem sp_end {s : ByteArray} {k f : Nat} {xs : List (List UInt8)} (h : SP s k f xs) (hk : s.size ≤ k) : xs ++ keep [(s.extract f s.size).data.toList] = split s.data.toList := by
  obtain ⟨a, b, b', c⟩ := h
  rw [List.drop_eq_nil_of_le (by rw [list_len]; exact hk), cuts_nil] at c
  rw [seg_tail hk]
  simpa [push] using c

/-- How SplitList ends. -/
def SplitEnd (l : List UInt8) (w : World) (e : Ending) (w' : World) : Prop := ∃ v, e = .returned v ∧ Strs.Own w' w.heap.size v (split l) ∧ Below w.heap.size w w'

set_option maxHeartbeats 1000000 in
theorem impl_split (s : ByteArray) (w : World) (hs : s.size ≤ 4194304) :
    Calls Tryz.prog 26 #[.string s] w (SplitEnd s.data.toList w) := by
  have HO := Lib.hid (Strs.own_lit_nil w)
  go_enter Tryz.func26, Tryz.ntmps26
  go_wp2
  go_loopw [3, 4, 5] (fun v f i wr => ∃ (k fr : Nat) (xs : List (List UInt8)), k ≤ s.size + 1 ∧ i = .int .i64 (k : Int) ∧ f = .int .i64 (fr : Int) ∧ Strs.Own wr w.heap.size v xs ∧ SP s k fr xs ∧ Below w.heap.size w wr) (fun _ _ i _ => s.size + 1 - (intOf i).toNat)
  case atStart => exact ⟨0, 0, [], by omega, rfl, rfl, HO.out, sp_start s, (Below.refl _ _).alloc (Nat.le_refl _) _⟩
  case round =>
    clear HO
    obtain ⟨k, fr, xs, hk, rfl, rfl, hown, hsp, hb⟩ := hrel
    have HS := Lib.hid hsp
    have hf1 : fr ≤ k := hsp.1
    have hf2 : fr ≤ s.size := hsp.2.1
    have hfi : (fr : Int) ≤ (k : Int) := by omega
    have HX := Lib.hid hsp.2.2.1
    clear hsp
    by_cases hlt : k < s.size
    · by_cases hc : s[k] = 34
      · have h34 : ((s[k].toNat : Int) == 34) = true := by rw [e34]; simp [hc]
        obtain ⟨Q, hQ⟩ : ∃ Q, Q = k + 1 + qlen (s.data.toList.drop (k + 1)) := ⟨_, rfl⟩
        obtain ⟨hQ1, hSP⟩ := sp_quote HS.out hlt hc hQ
        have HE := Lib.hid hSP
        have HQ := Lib.hid hQ
        have HO := Lib.hid (And.intro hown hb)
        have hQk : k < Q := by omega
        clear hc hQ hSP hown hb
        go_wp2_with (fail)
        go_at_call 51
        refine (quote_end s k Q _ hs hlt (Or.inl ⟨by omega, HQ.out.symm⟩)).mono ?_
        rintro e w' ⟨rfl, rfl⟩
        go_wp2
        go_roundw
        case rel => exact ⟨Q + 1, fr, xs, by omega, by go_num, rfl, HO.out.1, HE.out, HO.out.2⟩
        case measure => simp [intOf]; omega
      · have h34 : ((s[k].toNat : Int) == 34) = false := by rw [e34]; simpa using hc
        by_cases hc2 : s[k] = 44
        · have h44 : ((s[k].toNat : Int) == 44) = true := by rw [e44]; simp [hc2]
          have HE := Lib.hid (sp_comma HS.out hlt hc2)
          have hbs := hb.size
          have HB := Lib.hid hb
          have HO := Lib.hid hown
          clear hc hc2 hb hown
          go_wp2_with (fail)
          go_at_call 52
          refine (add_part (s.extract fr k) w.heap.size _ xs _ (by simp; omega) (by have := HX.out; omega) HO.out (by omega)).mono ?_
          rintro e w1 ⟨v1, rfl, hown1, hb1⟩
          have H1 := Lib.hid (And.intro hown1 (HB.out.trans hb1))
          clear hown1 hb1
          go_wp2
          go_roundw
          case rel => exact ⟨k + 1, k + 1, _, by omega, by go_num, by go_num, H1.out.1, HE.out, H1.out.2⟩
          case measure => simp [intOf]; omega
        · have h44 : ((s[k].toNat : Int) == 44) = false := by rw [e44]; simpa using hc2
          have HE := Lib.hid (sp_plain HS.out hlt hc hc2)
          have HO := Lib.hid (And.intro hown hb)
          clear hc hc2 hown hb
          go_wp2
          go_roundw
          case rel => exact ⟨k + 1, fr, xs, by omega, by go_num, rfl, HO.out.1, HE.out, HO.out.2⟩
          case measure => simp [intOf]; omega
    · have HE := Lib.hid (sp_end HS.out (by omega))
      have hbs := hb.size
      have HB := Lib.hid hb
      have HO := Lib.hid hown
      clear hb hown
      go_wp2_with (fail)
      go_at_call 52
      refine (add_part (s.extract fr s.size) w.heap.size _ xs _ (by simp; omega) (by have := HX.out; omega) HO.out (by omega)).mono ?_
      rintro e w1 ⟨v1, rfl, hown1, hb1⟩
      have H1 := Lib.hid (And.intro hown1 (HB.out.trans hb1))
      clear hown1 hb1
      go_wp2
      go_ret
      exact ⟨_, rfl, by rw [← HE.out]; exact H1.out.1, H1.out.2⟩
end Go.Proofs.YtegaakgmfphcaaaGreatDoor.Tx

/-
  CONTRACTS of the model's l4Cut (at a comma) and SplitList: at every text they return the parts between the commas outside quoted strings, and the trimmed ones that are not empty, in memory of their own; nothing that was there before is changed.
-/
namespace Go.Proofs.YtegaakgmfphcaaaGreatDoor.Tx
open Go Go.RowKit
set_option linter.unusedVariables false
set_option maxRecDepth 1000000

/-- The state of l4Cut. -/
def CP (s : ByteArray) (k f : Nat) (q : Bool) (xs : List (List UInt8)) : Prop := f ≤ k ∧ f ≤ s.size ∧ xs.length ≤ k ∧ xs ++ push (seg s.data.toList f k) (cuts q (s.data.toList.drop k)) = cuts false s.data.toList
theorem cp_start (s : ByteArray) : CP s 0 0 false [] := ⟨Nat.le_refl _, Nat.zero_le _, Nat.le_refl _, by rw [seg_same, push_nil, List.drop_zero]; rfl⟩
theorem cp_esc {s : ByteArray} {k f : Nat} {xs : List (List UInt8)} (h : CP s k f true xs) (hk : k < s.size) (h1 : s[k] = 92) : CP s (k + 1 + 1) f true xs := by
  obtain ⟨a, b, b', c⟩ := h
  refine ⟨by omega, b, by omega, ?_⟩
  rw [drop_cons s k hk, cuts_esc _ h1, push_push] at c
  have e2 : s.data.toList.drop (k + (1 + 1)) = (s.data.toList.drop (k + 1)).drop 1 := by rw [List.drop_drop]
  rw [show k + 1 + 1 = k + (1 + 1) by omega, seg_more a, e2, drop_cons s k hk, List.take_succ_cons]
  exact c
theorem cp_quote {s : ByteArray} {k f : Nat} {q : Bool} {xs : List (List UInt8)} (h : CP s k f q xs) (hk : k < s.size) (h1 : s[k] = 34) : CP s (k + 1) f (!q) xs := by
  obtain ⟨a, b, b', c⟩ := h
  refine ⟨by omega, b, by omega, ?_⟩
  rw [drop_cons s k hk, cuts_quote q _ h1, push_push] at c
  rw [seg_more a, drop_cons s k hk]
  exact c
theorem cp_comma {s : ByteArray} {k f : Nat} {xs : List (List UInt8)} (h : CP s k f false xs) (hk : k < s.size) (h1 : s[k] = 44) : CP s (k + 1) (k + 1) false (xs ++ [(s.extract f k).data.toList]) := by
  obtain ⟨a, b, b', c⟩ := h
  refine ⟨Nat.le_refl _, by omega, by rw [List.length_append]; simp; omega, ?_⟩
  rw [drop_cons s k hk, cuts_comma _ h1] at c
  rw [seg_same, push_nil, seg_ext, List.append_assoc]
  simpa [push] using c
theorem cp_plain {s : ByteArray} {k f : Nat} {q : Bool} {xs : List (List UInt8)} (h : CP s k f q xs) (hk : k < s.size) (h1 : q = true → s[k] ≠ 92) (h2 : s[k] ≠ 34) (h3 : q = false → s[k] ≠ 44) : CP s (k + 1) f q xs := by
  obtain ⟨a, b, b', c⟩ := h
  refine ⟨by omega, b, by omega, ?_⟩
  rw [drop_cons s k hk, cuts_plain q _ h1 h2 h3, push_push] at c
  rw [seg_more a, drop_cons s k hk]
  exact c
theorem cp_end {s : ByteArray} {k f : Nat} {q : Bool} {xs : List (List UInt8)} (h : CP s k f q xs) (hk : s.size ≤ k) : xs ++ [(s.extract f s.size).data.toList] = cuts false s.data.toList := by
  obtain ⟨a, b, b', c⟩ := h
  rw [List.drop_eq_nil_of_le (by rw [list_len]; exact hk), cuts_nil] at c
  rw [seg_tail hk]
  simpa [push] using c
theorem cuts_len {s : ByteArray} {k f : Nat} {q : Bool} {xs : List (List UInt8)} (h : CP s k f q xs) (hk : s.size ≤ k) (hk2 : k ≤ s.size + 1) : (cuts false s.data.toList).length ≤ s.size + 2 := by
  rw [← cp_end h hk, List.length_append]
  have := h.2.2.1
  simp; omega

theorem push_len {p : List UInt8} {L : List (List UInt8)} {n : Nat} (h : ∀ y ∈ L, y.length ≤ n) : ∀ x ∈ push p L, x.length ≤ p.length + n := by
  cases L with
  | nil => intro x hx; cases hx
  | cons a r =>
    intro x hx
    rcases List.mem_cons.1 hx with rfl | hx
    · rw [List.length_append]; have := h a (by simp); omega
    · have := h x (by simp [hx]); omega
theorem cuts_elem : ∀ n q (l : List UInt8), l.length ≤ n → ∀ x ∈ cuts q l, x.length ≤ l.length := by
  intro n
  induction n with
  | zero =>
    intro q l hl x hx
    rw [List.length_eq_zero_iff.1 (by omega : l.length = 0), cuts_nil] at hx
    simp at hx; subst hx; simp
  | succ n ih =>
    intro q l hl x hx
    cases l with
    | nil => rw [cuts_nil] at hx; simp at hx; subst hx; simp
    | cons c r =>
      simp at hl
      rw [cuts_cons] at hx
      split at hx
      · have := push_len (ih true (r.drop 1) (by simp; omega)) x hx
        simp at this ⊢; omega
      · split at hx
        · have := push_len (ih _ r hl) x hx
          simp at this ⊢; omega
        · split at hx
          · rcases List.mem_cons.1 hx with rfl | hx
            · simp
            · have := ih _ r hl x hx; simp; omega
          · have := push_len (ih _ r hl) x hx
            simp at this ⊢; omega
theorem push_count (p : List UInt8) (L : List (List UInt8)) : (push p L).length = L.length := by cases L <;> rfl
theorem cuts_count : ∀ n q (l : List UInt8), l.length ≤ n → (cuts q l).length ≤ l.length + 1 := by
  intro n
  induction n with
  | zero => intro q l hl; rw [List.length_eq_zero_iff.1 (by omega : l.length = 0), cuts_nil]; simp
  | succ n ih =>
    intro q l hl
    cases l with
    | nil => rw [cuts_nil]; simp
    | cons c r =>
      simp at hl
      rw [cuts_cons]
      split
      · rw [push_count]; have := ih true (r.drop 1) (by simp; omega); simp at this ⊢; omega
      · split
        · rw [push_count]; have := ih (!q) r hl; simp; omega
        · split
          · have := ih false r hl; simp; omega
          · rw [push_count]; have := ih q r hl; simp; omega
theorem own_mono {w : World} {B B' : Nat} {v : Value} {xs : List (List UInt8)} (h : Strs.Own w B v xs) (hB : B' ≤ B) : Strs.Own w B' v xs := by
  obtain ⟨hl, hc⟩ := h
  refine ⟨hl, ?_⟩
  rcases hc with h0 | ⟨g, cap, cur, rfl, h1, h2, h3⟩
  · exact Or.inl h0
  · exact Or.inr ⟨g, cap, cur, rfl, by omega, h2, h3⟩
theorem sv_ext (x : ByteArray) : Strs.sv x.data.toList = .string x := by unfold Strs.sv; simp
/-- How l4Cut ends. -/
def CutsEnd (l : List UInt8) (w : World) (e : Ending) (w' : World) : Prop := ∃ v, e = .returned v ∧ Strs.Own w' w.heap.size v (cuts false l) ∧ (cuts false l).length ≤ l.length + 2 ∧ Below w.heap.size w w'

theorem take_keep {L : List (List UInt8)} {k : Nat} (h : k < L.length) : keep (L.take (k + 1)) = keep (L.take k) ++ keep [L.getD k []] := by
  rw [List.take_succ_eq_append_getElem h, keep_append]; simp [List.getD, h]
theorem keep_len (L : List (List UInt8)) : (keep L).length ≤ L.length := by unfold keep; exact Nat.le_trans (List.length_filter_le _ _) (by simp)

end Go.Proofs.YtegaakgmfphcaaaGreatDoor.Tx

/-
  PLAIN FACTS: how long the elements of a list that is divided are, and how many.
-/
namespace Go.Proofs.YtegaakgmfphcaaaGreatDoor.Tx
set_option linter.unusedVariables false
set_option maxRecDepth 1000000
theorem trim_short (l : List UInt8) : (trim l).length ≤ l.length := by
  unfold trim triml trimr
  have h1 := (List.dropWhile_sublist blk (l := (l.reverse.dropWhile blk).reverse)).length_le
  have h2 := (List.dropWhile_sublist blk (l := l.reverse)).length_le
  simp at h1 h2 ⊢; omega
theorem split_elem (l : List UInt8) : ∀ x ∈ split l, x.length ≤ l.length := by
  intro x hx
  unfold split keep at hx
  obtain ⟨y, hy, rfl⟩ := List.mem_map.1 (List.mem_filter.1 hx).1
  have h1 := cuts_elem _ false l (Nat.le_refl _) y hy
  have h2 := trim_short y
  omega
theorem split_count (l : List UInt8) : (split l).length ≤ l.length + 1 := by
  have h := cuts_count _ false l (Nat.le_refl _)
  have h2 := keep_len (cuts false l)
  unfold split; omega
end Go.Proofs.YtegaakgmfphcaaaGreatDoor.Tx
