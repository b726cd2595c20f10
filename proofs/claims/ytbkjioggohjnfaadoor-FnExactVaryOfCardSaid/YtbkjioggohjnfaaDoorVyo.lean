/-
  CONTRACTS of VaryOf, the model's and the program's; nothing that was there before is changed.
-/
import Derived.Test.YtbkjioggohjnfaaDoorOnc
import Derived.Test.YtbkjioggohjnfaaDoorApw
import Derived.Test.YtbkjioggohjnfaaDoorLGet
import Derived.Test.YtbkjioggohjnfaaDoorSplLen
import Derived.Test.YtbkjioggohjnfaaDoorLowI
import Derived.Test.YtbkjioggohjnfaaDoorLowS
namespace Go.Proofs.YtbkjioggohjnfaaDoor.Vyo
open Go Go.RowKit
set_option linter.unusedVariables false
set_option maxRecDepth 1000000
set_option maxRecDepth 1000000

abbrev L : Type := List (List UInt8)
def varyN : List UInt8 := [118, 97, 114, 121]
def star : List UInt8 := [42]
/-- What VaryOf answers. -/
def vyp (ps : L) : L × Bool := if ps.contains star = true then ([], true) else (Onc.once (ps.map Tx.lower), false)
def vy (l : List Flds.Fld) : L × Bool := vyp (Tx.split (Flds.got varyN l))
def VyEnd (z : L × Bool) (w : World) (e : Ending) (w' : World) : Prop := ∃ u, e = .returned (.tuple #[u, .bool z.2]) ∧ Strs.Own w' w.heap.size u z.1 ∧ Below w.heap.size w w'
theorem vy_ret {z : L × Bool} {m : L} {b : Bool} {w w' : World} {v : Value} (h : z = (m, b)) (ho : Strs.Own w' w.heap.size v m) (hb : Below w.heap.size w w') : VyEnd z w (.returned (.tuple #[v, .bool b])) w' := by
  subst h; exact ⟨v, rfl, ho, hb⟩
theorem low_len (a : List UInt8) : (Tx.lower a).length = a.length := by unfold Tx.lower; simp
theorem map_at {ps : L} {k : Nat} (h : k < ps.length) : (ps.map Tx.lower).getD k [] = Tx.lower (ps.getD k []) := by simp [List.getD, h]
theorem map_more {ps : L} {k : Nat} (h : k < ps.length) : (ps.take (k + 1)).map Tx.lower = (ps.take k).map Tx.lower ++ [Tx.lower (ps.getD k [])] := by
  rw [List.take_succ_eq_append_getElem h, List.map_append, show ps.getD k [] = ps[k] by simp [List.getD, h]]; rfl
theorem vy_star {ps : L} {k : Nat} (h : k < ps.length) (e : ps.getD k [] = star) : vyp ps = ([], true) := by
  unfold vyp
  rw [if_pos (by rw [← e]; exact Onc.has_at h)]
theorem vy_more {ps : L} {k : Nat} (h : k < ps.length) (hn : (ps.take k).contains star = false) (e : ps.getD k [] ≠ star) : (ps.take (k + 1)).contains star = false := by
  rw [Onc.take_has h, hn]
  simpa using fun h => e h.symm
theorem vy_end {ps : L} {k : Nat} (h : k = ps.length) (hn : (ps.take k).contains star = false) : vyp ps = (Onc.once (ps.map Tx.lower), false) := by
  subst h
  rw [List.take_length] at hn
  unfold vyp
  rw [if_neg (by rw [hn]; decide)]
/-- A text of a slice that the call owns, read on. -/
theorem own_at {w : World} {B n cap : Nat} {a : Option Addr} {xs : L} (h : w.ownsRow B 9 1 (.slice a n cap) n (Strs.svs xs)) {j : Nat} (hj : j < n) : ∃ g, a = some ⟨g, 0, none⟩ ∧ w.cell? ⟨g, j, none⟩ = some (.string ⟨(xs.getD j []).toArray⟩) := by
  obtain ⟨a', cap', he, hg⟩ := Rec.shape_at h
  obtain ⟨g, hg⟩ := hg (by omega)
  cases he
  subst hg
  exact ⟨g, rfl, Strs.own_cell h hj⟩
theorem low_i (a : List UInt8) (hl : a.length ≤ 4194304) (W : World) : Calls Tryd.prog 20 #[.string ⟨a.toArray⟩] W fun e w' => e = .returned (.string ⟨(Tx.lower a).toArray⟩) ∧ Below W.heap.size W w' := Tx.impl_lower ⟨a.toArray⟩ W (by simp [ByteArray.size]; omega)
theorem low_s (a : List UInt8) (hl : a.length ≤ 4194304) (W : World) : Calls Tryd.prog 16 #[.string ⟨a.toArray⟩] W fun e w' => e = .returned (.string ⟨(Tx.lower a).toArray⟩) ∧ Below W.heap.size W w' := Tx.spec_lower ⟨a.toArray⟩ W (by simp [ByteArray.size]; omega)
abbrev Row (w : World) (B : Nat) (v : Value) (xs : L) : Prop := w.ownsRow B 9 1 v xs.length (Strs.svs xs)

def OncCall (w : World) (u : Value) (ps : L) : Prop := Calls Tryd.prog 21 #[u] w (Onc.OncEnd (ps.map Tx.lower) w)
set_option maxHeartbeats 4000000 in
theorem impl_vy (v : Value) (B : Nat) (l : List Flds.Fld) (w : World) (h : Flds.Holds w B v l) (hB : B ≤ w.heap.size) (hl : Flds.total l ≤ 1048576) :
    Calls Tryd.prog 7 #[v] w (VyEnd (vy l) w) := by
  obtain ⟨i0, hi, hz0, hz1, hz2⟩ := info_parts Strs.info_str
  have hg := Flds.got_len varyN l
  have HG := Lib.hid (Flds.impl_get v B l varyN _ h hB hl)
  unfold Flds.GetEnd at HG
  have hj : Tx.join (Flds.vals varyN l) = Flds.got varyN l := rfl
  rw [hj] at HG
  obtain ⟨a, cap, rfl, _⟩ := Flds.shape_lget h
  have hgl : (Flds.got varyN l).length ≤ 3145728 := by omega
  have HV : Hid (vy l = vyp (Tx.split (Flds.got varyN l))) := Lib.hid rfl
  generalize vy l = z at HV ⊢
  generalize Flds.got varyN l = g at HG hgl HV
  generalize decide (0 < (Flds.vals varyN l).length) = q at HG
  unfold varyN at HG
  have hsg : (⟨g.toArray⟩ : ByteArray).size = g.length := by simp [ByteArray.size]
  have HSP := Lib.hid (fun W => Tx.impl_split ⟨g.toArray⟩ W (by rw [hsg]; omega))
  have HPL : Hid (∀ x ∈ Tx.split g, x.length ≤ 4194304) := Lib.hid (fun x hx => Nat.le_trans (Tx.split_elem g x hx) (by omega))
  have HPC : Hid ((Tx.split g).length ≤ 8000000) := Lib.hid (Nat.le_trans (Tx.split_count g) (by omega))
  have e0 : (⟨g.toArray⟩ : ByteArray).data.toList = g := rfl
  unfold Tx.SplitEnd at HSP
  rw [e0] at HSP
  generalize Tx.split g = ps at HSP HPL HPC HV
  clear h hl hg hj hsg hgl e0
  go_enter Tryd.func7, Tryd.ntmps7
  go_wp2_with (fail)
  go_at_call 18
  refine HG.out.mono ?_
  rintro e w1 ⟨rfl, hb1⟩
  have HB1 := Lib.hid (hb1.alloc hb1.size (.cells #[] 9))
  have HN1 := Lib.hid (Strs.own_lit_nil w1)
  have hs1 := hb1.size
  clear hb1 HG
  go_wp2_with (fail)
  go_at_call 19
  refine (HSP.out _).mono ?_
  rintro e w2 ⟨su, rfl, ho, hb2⟩
  obtain ⟨sa, sc, rfl, _⟩ := Rec.shape_at ho
  have hs2 := hb2.size
  rw [World.size_alloc] at hs2
  have HB2 := Lib.hid (Base.then_below HB1.out hb2)
  have HN2 : Hid (Row w2 w.heap.size (.slice (some ⟨w1.heap.size, 0, none⟩) 0 0) ((ps.take 0).map Tx.lower)) := Lib.hid (Rec.own_mono (Rec.row_below (HN1.out) hb2) (by omega))
  have HE2 : Hid (∀ g, Value.ownBlock (.slice (some ⟨w1.heap.size, 0, none⟩) 0 0) = some g → some g ≠ Value.ownBlock (.slice sa ps.length sc)) := Lib.hid (fun g hg hx => by
    have h9 := (ho.lt g hx.symm).1
    rw [World.size_alloc] at h9
    have hg' : w1.heap.size = g := by simpa [Value.ownBlock] using hg
    omega)
  have HS2 : Hid (Row w2 w.heap.size (.slice sa ps.length sc) ps) := Lib.hid (Rec.own_mono ho (by rw [World.size_alloc]; omega))
  clear ho hb2 HN1 HB1
  go_wp2
  go_loopw [6, 18] (fun u i wr => ∃ k : Nat, k ≤ ps.length ∧ i = .int .i64 (k : Int) ∧ Hid ((ps.take k).contains star = false) ∧ Hid (Row wr w.heap.size u ((ps.take k).map Tx.lower)) ∧ Hid (∀ g, u.ownBlock = some g → some g ≠ Value.ownBlock (.slice sa ps.length sc)) ∧ Hid (Row wr w.heap.size (.slice sa ps.length sc) ps) ∧ Below w.heap.size w wr) (fun _ i _ => ps.length - (intOf i).toNat)
  case atStart => exact ⟨0, Nat.zero_le _, rfl, Lib.hid (by simp), HN2, HE2, HS2, HB2.out⟩
  case round =>
    clear HN2 HE2 HS2 HB2
    obtain ⟨k, hk, rfl, HC, HN, HE, HS, hb⟩ := hrel
    have HB := Lib.hid hb
    have hbs := hb.size
    clear hb
    by_cases hlt : k < ps.length
    · obtain ⟨g0, rfl, c0⟩ := own_at HS.out hlt
      have hxl := HPL.out _ (Onc.mem_at hlt)
      have HM := Lib.hid (map_more hlt)
      have HST := Lib.hid (fun e => vy_star hlt e)
      have HMO := Lib.hid (fun e => vy_more hlt HC.out e)
      generalize ps.getD k [] = x at c0 hxl HM HST HMO
      have hki : (k : Int) < (ps.length : Int) := by omega
      have hpl := HPC.out
      by_cases e : x = star
      · have HR := Lib.hid (HV.out.trans (HST.out e))
        have HLN := Lib.hid (Strs.own_lit_nil wr)
        have HBA := Lib.hid (HB.out.alloc HB.out.size (.cells #[] 9))
        subst e
        unfold star at c0
        clear HST HMO HM hxl
        go_wp2
        go_ret2
        exact vy_ret HR.out (Rec.own_mono HLN.out hbs) HBA.out
      · have HC1 := Lib.hid (HMO.out e)
        have hsx : (⟨x.toArray⟩ : ByteArray).size = x.length := by simp [ByteArray.size]
        have HLO := Lib.hid (fun W => low_i x (by omega) W)
        have hq : ¬ x = [42] := e
        have hq1 : (x == [42]) = false := by simpa using hq
        have HLX : Hid ((Tx.lower x).length ≤ 4194304) := Lib.hid (by rw [low_len]; exact hxl)
        have HNL : Hid (((ps.take k).map Tx.lower).length ≤ 8000000) := Lib.hid (by rw [List.length_map, List.length_take]; have := HPC.out; omega)
        clear HST HMO e hxl hsx HC
        go_wp2_with (fail)
        go_at_call 20
        refine (HLO.out _).mono ?_
        rintro e w3 ⟨rfl, hb3⟩
        have HB3 := Lib.hid (Base.then_below HB.out hb3)
        have HN3 := Lib.hid (Rec.row_below HN.out hb3)
        have HS3 := Lib.hid (Rec.row_below HS.out hb3)
        generalize (ps.take k).map Tx.lower = m at HN3 HM HNL
        generalize Tx.lower x = y at HM HLX ⊢
        have hml := Strs.svs_len m
        have hbs3 := HB3.out.size
        clear hb3 HN HS HB HLO
        go_wp2_with (at_builtin; refine Apw.append_where _ rfl (.tmp 25) (.tmp 28) 24 rfl w.heap.size 9 i0 (.string ⟨#[]⟩) 1 16 Tryd.underlying24 hi hz0 hz1 hz2 rfl (by decide) _ _ _ rfl (HN3.out.alloc _) ⟨w3.heap.size, 0, none⟩ 1 1 [.string ⟨y.toArray⟩] rfl rfl (Strs.news_one _ _ _) (Strs.sv_one y) (by decide) (by have := HNL.out; unfold maxLen; omega) (by have := HNL.out; omega) (by simp; omega) ?_; intro v1 w4 hown1 hg1 hwh)
        have HP := Lib.hid (Strs.push_own (x := y) HN3.out HB3.out (Nat.le_refl _) hown1 hg1)
        have HS4 := Lib.hid (Rec.row_grown (HS3.out.alloc _) hg1 (fun g hg hx => HE.out g hx.symm hg.symm))
        have HE4 : Hid (∀ g, v1.ownBlock = some g → some g ≠ Value.ownBlock (.slice (some ⟨g0, 0, none⟩) ps.length sc)) := Lib.hid (fun g hg hx => by
          rcases hwh with hwh | hwh
          · exact HE.out g (hwh ▸ hg) hx
          · have h8 := (HS3.out.lt g hx.symm).2
            rw [hwh] at hg
            cases hg
            simp only [World.size_alloc] at h8
            omega)
        clear hown1 hg1 hwh
        go_wp2
        go_roundw
        case rel => exact ⟨k + 1, by omega, by go_num, HC1, by rw [HM.out]; exact Lib.hid HP.out.1, HE4, HS4, HP.out.2⟩
        case measure => simp [intOf]; omega
    · obtain rfl : k = ps.length := by omega
      have HR := Lib.hid (HV.out.trans (vy_end rfl HC.out))
      have HO : Hid (OncCall wr u6 ps) := Lib.hid (by
        have h1 := HN.out
        rw [List.take_length] at h1
        exact Onc.impl_once u6 _ (ps.map Tx.lower) wr (Strs.own_holds h1) (Nat.le_refl _) (by rw [List.length_map]; exact HPC.out) (fun x hx => by
          obtain ⟨y, hy, rfl⟩ := List.mem_map.1 hx
          rw [low_len]; exact HPL.out y hy))
      unfold OncCall Onc.OncEnd at HO
      clear HC HN HE HS
      go_wp2_with (fail)
      go_at_call 21
      refine HO.out.mono ?_
      rintro e w5 ⟨ru, rfl, ho, hb5⟩
      have HB5 := Lib.hid (Base.then_below HB.out hb5)
      have HO5 := Lib.hid (Rec.own_mono ho hbs)
      clear ho hb5
      go_wp2
      go_ret2
      exact vy_ret HR.out HO5.out HB5.out

set_option maxHeartbeats 4000000 in
theorem spec_vy (v : Value) (B : Nat) (l : List Flds.Fld) (w : World) (h : Flds.Holds w B v l) (hB : B ≤ w.heap.size) (hl : Flds.total l ≤ 1048576) :
    Calls Tryd.prog 5 #[v] w (VyEnd (vy l) w) := by
  obtain ⟨i0, hi, hz0, hz1, hz2⟩ := info_parts Strs.info_str
  have hg := Flds.got_len varyN l
  have HG := Lib.hid (Flds.spec_lget v B l varyN _ h (by omega))
  unfold Flds.GotEnd at HG
  obtain ⟨a, cap, rfl, _⟩ := Flds.shape_lget h
  have hgl : (Flds.got varyN l).length ≤ 3145728 := by omega
  have HV : Hid (vy l = vyp (Tx.split (Flds.got varyN l))) := Lib.hid rfl
  generalize vy l = z at HV ⊢
  generalize Flds.got varyN l = g at HG hgl HV
  unfold varyN at HG
  have hsg : (⟨g.toArray⟩ : ByteArray).size = g.length := by simp [ByteArray.size]
  have HSP := Lib.hid (fun W => Tx.spec_split ⟨g.toArray⟩ W (by rw [hsg]; omega))
  have HPL : Hid (∀ x ∈ Tx.split g, x.length ≤ 4194304) := Lib.hid (fun x hx => Nat.le_trans (Tx.split_elem g x hx) (by omega))
  have HPC : Hid ((Tx.split g).length ≤ 8000000) := Lib.hid (Nat.le_trans (Tx.split_count g) (by omega))
  have e0 : (⟨g.toArray⟩ : ByteArray).data.toList = g := rfl
  unfold Tx.SplitEnd at HSP
  rw [e0] at HSP
  generalize Tx.split g = ps at HSP HPL HPC HV
  clear h hl hg hsg hgl e0
  go_enter Tryd.func5, Tryd.ntmps5
  go_wp2_with (fail)
  go_at_call 15
  refine HG.out.mono ?_
  rintro e w1 ⟨rfl, hb1⟩
  have HB1 := Lib.hid hb1
  have hs1 := hb1.size
  clear hb1 HG
  go_wp2_with (fail)
  go_at_call 14
  refine (HSP.out _).mono ?_
  rintro e w2 ⟨su, rfl, ho, hb2⟩
  obtain ⟨sa, sc, rfl, _⟩ := Rec.shape_at ho
  have hs2 := hb2.size
  have HB2 := Lib.hid ((Base.then_below HB1.out hb2).alloc (Base.then_below HB1.out hb2).size (.cells #[] 9))
  have HN2 : Hid (Row (w2.alloc (.cells #[] 9)) w.heap.size (.slice (some ⟨w2.heap.size, 0, none⟩) 0 0) (Onc.once ((ps.map Tx.lower).take 0))) := Lib.hid (Rec.own_mono (Strs.own_lit_nil w2) (by omega))
  have HE2 : Hid (∀ g, Value.ownBlock (.slice (some ⟨w2.heap.size, 0, none⟩) 0 0) = some g → some g ≠ Value.ownBlock (.slice sa ps.length sc)) := Lib.hid (fun g hg hx => by
    have h9 := (ho.lt g hx.symm).2
    have hg' : w2.heap.size = g := by simpa [Value.ownBlock] using hg
    omega)
  have HS2 : Hid (Row (w2.alloc (.cells #[] 9)) w.heap.size (.slice sa ps.length sc) ps) := Lib.hid ((Rec.own_mono ho hs1).alloc _)
  clear ho hb2 HB1
  go_wp2
  go_loopw [5, 6, 7, 8, 9] (fun u i _ _ _ wr => ∃ k : Nat, k ≤ ps.length ∧ i = .int .i64 (k : Int) ∧ Hid ((ps.take k).contains star = false) ∧ Hid (Row wr w.heap.size u (Onc.once ((ps.map Tx.lower).take k))) ∧ Hid (∀ g, u.ownBlock = some g → some g ≠ Value.ownBlock (.slice sa ps.length sc)) ∧ Hid (Row wr w.heap.size (.slice sa ps.length sc) ps) ∧ Below w.heap.size w wr) (fun _ i _ _ _ _ => ps.length - (intOf i).toNat)
  case atStart => exact ⟨0, Nat.zero_le _, rfl, Lib.hid (by simp), HN2, HE2, HS2, HB2.out⟩
  case round =>
    clear HN2 HE2 HS2 HB2
    obtain ⟨k, hk, rfl, HC, HN, HE, HS, hb⟩ := hrel
    have HB := Lib.hid hb
    have hbs := hb.size
    clear hb
    by_cases hlt : k < ps.length
    · obtain ⟨g0, rfl, c0⟩ := own_at HS.out hlt
      have hxl := HPL.out _ (Onc.mem_at hlt)
      have hltm : k < (ps.map Tx.lower).length := by rw [List.length_map]; exact hlt
      have HM := Lib.hid (Onc.once_more hltm)
      rw [map_at hlt] at HM
      have HST := Lib.hid (fun e => vy_star hlt e)
      have HMO := Lib.hid (fun e => vy_more hlt HC.out e)
      generalize ps.getD k [] = x at c0 hxl HM HST HMO
      have hki : (k : Int) < (ps.length : Int) := by omega
      have hpl := HPC.out
      by_cases e : x = star
      · have HR := Lib.hid (HV.out.trans (HST.out e))
        have HLN := Lib.hid (Strs.own_lit_nil wr)
        have HBA := Lib.hid (HB.out.alloc HB.out.size (.cells #[] 9))
        subst e
        unfold star at c0
        clear HST HMO HM hxl hltm
        go_wp2
        go_ret2
        exact vy_ret HR.out (Rec.own_mono HLN.out hbs) HBA.out
      · have HC1 := Lib.hid (HMO.out e)
        have hsx : (⟨x.toArray⟩ : ByteArray).size = x.length := by simp [ByteArray.size]
        have HLO := Lib.hid (fun W => low_s x (by omega) W)
        have hq : ¬ x = [42] := e
        have hq1 : (x == [42]) = false := by simpa using hq
        have HNL : Hid ((Onc.once ((ps.map Tx.lower).take k)).length ≤ 8000000) := Lib.hid (Nat.le_trans (Onc.once_len _) (by rw [List.length_take, List.length_map]; have := HPC.out; omega))
        clear HST HMO e hxl hsx HC hltm
        generalize Onc.once ((ps.map Tx.lower).take k) = m at HN HM HNL
        go_wp2_with (fail)
        go_at_call 16
        refine (HLO.out _).mono ?_
        rintro e w3 ⟨rfl, hb3⟩
        have HB3 := Lib.hid (Base.then_below HB.out hb3)
        have HN3 := Lib.hid (Rec.row_below HN.out hb3)
        have HS3 := Lib.hid (Rec.row_below HS.out hb3)
        generalize Tx.lower x = y at HM ⊢
        obtain ⟨na, nc, rfl, _⟩ := Rec.shape_at HN3.out
        clear hb3 HN HS HB HLO c0
        go_wp2
        go_loopw [8, 9] (fun s j wq => ∃ n : Nat, n ≤ m.length ∧ j = .int .i64 (n : Int) ∧ s = .bool ((m.take n).contains y) ∧ Below w3.heap.size w3 wq) (fun _ j _ => m.length - (intOf j).toNat)
        case atStart => exact ⟨0, Nat.zero_le _, rfl, by simp, Below.refl _ _⟩
        case round =>
          obtain ⟨n, hn, rfl, rfl, hbq⟩ := hrel
          have HN4 := Lib.hid (Rec.row_below HN3.out hbq)
          have HS4 := Lib.hid (Rec.row_below HS3.out hbq)
          have HB4 := Lib.hid (Base.then_below HB3.out hbq)
          have HBQ := Lib.hid hbq
          clear hbq
          by_cases hln : n < m.length
          · obtain ⟨g1, rfl, c1⟩ := own_at HN4.out hln
            have HT := Lib.hid (Onc.take_has hln y)
            have hni : (n : Int) < (m.length : Int) := by omega
            have hmn := HNL.out
            cases hs : (m.take n).contains y with
            | true =>
              have HT1 : Hid ((m.take (n + 1)).contains y = true) := Lib.hid (by rw [HT.out, hs]; simp)
              clear hs HT
              go_wp2
              go_roundw
              case rel => exact ⟨n + 1, by omega, by go_num, by rw [HT1.out], HBQ.out⟩
              case measure => simp [intOf]; omega
            | false =>
              by_cases ey : m.getD n [] = y
              · have HT1 : Hid ((m.take (n + 1)).contains y = true) := Lib.hid (by rw [HT.out, ey]; simp)
                rw [ey] at c1
                clear hs HT ey
                go_wp2
                go_roundw
                case rel => exact ⟨n + 1, by omega, by go_num, by rw [HT1.out], HBQ.out⟩
                case measure => simp [intOf]; omega
              · have HT1 : Hid ((m.take (n + 1)).contains y = false) := Lib.hid (by rw [HT.out, hs, Bool.or_false]; simpa using fun h => ey h.symm)
                generalize m.getD n [] = x1 at c1 ey
                have hy : (x1 == y) = false := by simpa using ey
                clear hs HT ey
                go_wp2
                go_roundw
                case rel => exact ⟨n + 1, by omega, by go_num, by rw [HT1.out], HBQ.out⟩
                case measure => simp [intOf]; omega
          · obtain rfl : n = m.length := by omega
            rw [List.take_length]
            have hbs4 := HB4.out.size
            cases hs : m.contains y with
            | true =>
              have HE1 : Hid (Onc.once ((ps.map Tx.lower).take (k + 1)) = m) := Lib.hid (by rw [HM.out]; unfold Onc.step; rw [if_pos hs])
              clear hs HM
              go_wp2
              go_roundw
              case rel => exact ⟨k + 1, by omega, by go_num, HC1, by rw [HE1.out]; exact HN4, HE, HS4, HB4.out⟩
              case measure => simp [intOf]; omega
            | false =>
              have HE1 : Hid (Onc.once ((ps.map Tx.lower).take (k + 1)) = m ++ [y]) := Lib.hid (by rw [HM.out]; unfold Onc.step; rw [if_neg (by rw [hs]; decide)])
              have hml := Strs.svs_len m
              clear hs HM
              go_wp2_with (at_builtin; refine Apw.append_where _ rfl (.tmp 48) (.tmp 50) 24 rfl w.heap.size 9 i0 (.string ⟨#[]⟩) 1 16 Tryd.underlying24 hi hz0 hz1 hz2 rfl (by decide) _ _ _ rfl (HN4.out.alloc _) ⟨wr.heap.size, 0, none⟩ 1 1 [.string ⟨y.toArray⟩] rfl rfl (Strs.news_one _ _ _) (Strs.sv_one y) (by decide) (by have := HNL.out; unfold maxLen; omega) (by have := HNL.out; omega) (by simp; omega) ?_; intro v1 w4 hown1 hg1 hwh)
              have HP := Lib.hid (Strs.push_own (x := y) HN4.out HB4.out (Nat.le_refl _) hown1 hg1)
              have HS5 := Lib.hid (Rec.row_grown (HS4.out.alloc _) hg1 (fun g hg hx => HE.out g hx.symm hg.symm))
              have HE5 : Hid (∀ g, v1.ownBlock = some g → some g ≠ Value.ownBlock (.slice (some ⟨g0, 0, none⟩) ps.length sc)) := Lib.hid (fun g hg hx => by
                rcases hwh with hwh | hwh
                · exact HE.out g (hwh ▸ hg) hx
                · have h8 := (HS4.out.lt g hx.symm).2
                  rw [hwh] at hg
                  cases hg
                  simp only [World.size_alloc] at h8
                  omega)
              clear hown1 hg1 hwh
              go_wp2
              go_roundw
              case rel => exact ⟨k + 1, by omega, by go_num, HC1, by rw [HE1.out]; exact Lib.hid HP.out.1, HE5, HS5, HP.out.2⟩
              case measure => simp [intOf]; omega
    · obtain rfl : k = ps.length := by omega
      have HR := Lib.hid (HV.out.trans (vy_end rfl HC.out))
      have HO5 : Hid (Row wr w.heap.size u5 (Onc.once (ps.map Tx.lower))) := Lib.hid (by have h1 := HN.out; rw [List.take_of_length_le (by rw [List.length_map]; exact Nat.le_refl _)] at h1; exact h1)
      clear HC HN HE HS
      go_wp2
      go_ret2
      exact vy_ret HR.out HO5.out HB.out
end Go.Proofs.YtbkjioggohjnfaaDoor.Vyo
