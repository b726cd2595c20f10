/-
  CONTRACTS AND PLAIN FACTS, several texts in one; each says in its own words what it proves.
-/
import Derived.Test.YtegaakgmfphcaaaGreatDoorSelI
import Derived.Test.YtegaakgmfphcaaaGreatDoorSelG
import Derived.Test.YtegaakgmfphcaaaGreatDoorSelD
import Derived.Test.YtegaakgmfphcaaaGreatDoorSelB
import Derived.Test.YtegaakgmfphcaaaGreatDoorSelA
import Derived.Test.YtegaakgmfphcaaaGreatDoorSelF
import Derived.Deep.QuietTactic
import Derived.BigQuiet
import Derived.Test.YtegaakgmfphcaaaGreatDoorRows
import Derived.WalkKit
import Derived.ProofKit
import Derived.Lib.Hide
import Derived.OpenShut
import Derived.Below
import Derived.Lib.ItoaNum
import Derived.Lib.AtoiAllCases
set_option linter.unusedSimpArgs false
set_option linter.unusedVariables false

/-
  CONTRACTS of VaryOf, the model's and the program's; nothing that was there before is changed.
-/
namespace Go.Proofs.YtegaakgmfphcaaaGreatDoor.Vyo
open Go Go.RowKit
set_option linter.unusedVariables false
set_option maxRecDepth 1000000
set_option maxRecDepth 1000000

abbrev L : Type := List (List UInt8)
def varyN : List UInt8 := [118, 97, 114, 121]
def star : List UInt8 := [42]
/-- What VaryOf answers. -/
def vyp (ps : L) : L × Bool := if ps.contains star = true then ([], true) else (Onc.once (ps.map Tx.lower), false)
def vy (l : List Flds.Fld) : L × Bool := vyp (Tx.split (Flds.got varyN l))
def VyEnd (z : L × Bool) (w : World) (e : Ending) (w' : World) : Prop := ∃ u, e = .returned (.tuple #[u, .bool z.2]) ∧ Strs.Own w' w.heap.size u z.1 ∧ Below w.heap.size w w'
theorem vy_ret {z : L × Bool} {m : L} {b : Bool} {w w' : World} {v : Value} (h : z = (m, b)) (ho : Strs.Own w' w.heap.size v m) (hb : Below w.heap.size w w') : VyEnd z w (.returned (.tuple #[v, .bool b])) w' := by
  subst h; exact ⟨v, rfl, ho, hb⟩
theorem low_len (a : List UInt8) : (Tx.lower a).length = a.length := by unfold Tx.lower; simp
theorem map_at {ps : L} {k : Nat} (h : k < ps.length) : (ps.map Tx.lower).getD k [] = Tx.lower (ps.getD k []) := by simp [List.getD, h]
theorem map_more {ps : L} {k : Nat} (h : k < ps.length) : (ps.take (k + 1)).map Tx.lower = (ps.take k).map Tx.lower ++ [Tx.lower (ps.getD k [])] := by
  rw [List.take_succ_eq_append_getElem h, List.map_append, show ps.getD k [] = ps[k] by simp [List.getD, h]]; rfl
theorem vy_star {ps : L} {k : Nat} (h : k < ps.length) (e : ps.getD k [] = star) : vyp ps = ([], true) := by
  unfold vyp
  rw [if_pos (by rw [← e]; exact Onc.has_at h)]
theorem vy_more {ps : L} {k : Nat} (h : k < ps.length) (hn : (ps.take k).contains star = false) (e : ps.getD k [] ≠ star) : (ps.take (k + 1)).contains star = false := by
  rw [Onc.take_has h, hn]
  simpa using fun h => e h.symm
theorem vy_end {ps : L} {k : Nat} (h : k = ps.length) (hn : (ps.take k).contains star = false) : vyp ps = (Onc.once (ps.map Tx.lower), false) := by
  subst h
  rw [List.take_length] at hn
  unfold vyp
  rw [if_neg (by rw [hn]; decide)]
/-- A text of a slice that the call owns, read on. -/
theorem own_at {w : World} {B n cap : Nat} {a : Option Addr} {xs : L} (h : w.ownsRow B 9 1 (.slice a n cap) n (Strs.svs xs)) {j : Nat} (hj : j < n) : ∃ g, a = some ⟨g, 0, none⟩ ∧ w.cell? ⟨g, j, none⟩ = some (.string ⟨(xs.getD j []).toArray⟩) := by
  obtain ⟨a', cap', he, hg⟩ := Rec.shape_at h
  obtain ⟨g, hg⟩ := hg (by omega)
  cases he
  subst hg
  exact ⟨g, rfl, Strs.own_cell h hj⟩
theorem low_i (a : List UInt8) (hl : a.length ≤ 4194304) (W : World) : Calls Tryz.prog 27 #[.string ⟨a.toArray⟩] W fun e w' => e = .returned (.string ⟨(Tx.lower a).toArray⟩) ∧ Below W.heap.size W w' := Tx.impl_lower ⟨a.toArray⟩ W (by simp [ByteArray.size]; omega)
abbrev Row (w : World) (B : Nat) (v : Value) (xs : L) : Prop := w.ownsRow B 9 1 v xs.length (Strs.svs xs)

def OncCall (w : World) (u : Value) (ps : L) : Prop := Calls Tryz.prog 28 #[u] w (Onc.OncEnd (ps.map Tx.lower) w)
set_option maxHeartbeats 4000000 in
theorem impl_vy (v : Value) (B : Nat) (l : List Flds.Fld) (w : World) (h : Flds.Holds w B v l) (hB : B ≤ w.heap.size) (hl : Flds.total l ≤ 1048576) :
    Calls Tryz.prog 9 #[v] w (VyEnd (vy l) w) := by
  obtain ⟨i0, hi, hz0, hz1, hz2⟩ := info_parts Strs.info_str
  have hg := Flds.got_len varyN l
  have HG := Lib.hid (Flds.impl_get v B l varyN _ h hB hl)
  unfold Flds.GetEnd at HG
  have hj : Tx.join (Flds.vals varyN l) = Flds.got varyN l := rfl
  rw [hj] at HG
  obtain ⟨a, cap, rfl, _⟩ := Flds.shape_lget h
  have hgl : (Flds.got varyN l).length ≤ 3145728 := by omega
  have HV : Hid (vy l = vyp (Tx.split (Flds.got varyN l))) := Lib.hid rfl
  generalize vy l = z at HV ⊢
  generalize Flds.got varyN l = g at HG hgl HV
  generalize decide (0 < (Flds.vals varyN l).length) = q at HG
  unfold varyN at HG
  have hsg : (⟨g.toArray⟩ : ByteArray).size = g.length := by simp [ByteArray.size]
  have HSP := Lib.hid (fun W => Tx.impl_split ⟨g.toArray⟩ W (by rw [hsg]; omega))
  have HPL : Hid (∀ x ∈ Tx.split g, x.length ≤ 4194304) := Lib.hid (fun x hx => Nat.le_trans (Tx.split_elem g x hx) (by omega))
  have HPC : Hid ((Tx.split g).length ≤ 8000000) := Lib.hid (Nat.le_trans (Tx.split_count g) (by omega))
  have e0 : (⟨g.toArray⟩ : ByteArray).data.toList = g := rfl
  unfold Tx.SplitEnd at HSP
  rw [e0] at HSP
  generalize Tx.split g = ps at HSP HPL HPC HV
  clear h hl hg hj hsg hgl e0
  go_enter Tryz.func9, Tryz.ntmps9
  go_wp2_with (fail)
  go_at_call 10
  refine HG.out.mono ?_
  rintro e w1 ⟨rfl, hb1⟩
  have HB1 := Lib.hid (hb1.alloc hb1.size (.cells #[] 9))
  have HN1 := Lib.hid (Strs.own_lit_nil w1)
  have hs1 := hb1.size
  clear hb1 HG
  go_wp2_with (fail)
  go_at_call 26
  refine (HSP.out _).mono ?_
  rintro e w2 ⟨su, rfl, ho, hb2⟩
  obtain ⟨sa, sc, rfl, _⟩ := Rec.shape_at ho
  have hs2 := hb2.size
  rw [World.size_alloc] at hs2
  have HB2 := Lib.hid (Base.then_below HB1.out hb2)
  have HN2 : Hid (Row w2 w.heap.size (.slice (some ⟨w1.heap.size, 0, none⟩) 0 0) ((ps.take 0).map Tx.lower)) := Lib.hid (Rec.own_mono (Rec.row_below (HN1.out) hb2) (by omega))
  have HE2 : Hid (∀ g, Value.ownBlock (.slice (some ⟨w1.heap.size, 0, none⟩) 0 0) = some g → some g ≠ Value.ownBlock (.slice sa ps.length sc)) := Lib.hid (fun g hg hx => by
    have h9 := (ho.lt g hx.symm).1
    rw [World.size_alloc] at h9
    have hg' : w1.heap.size = g := by simpa [Value.ownBlock] using hg
    omega)
  have HS2 : Hid (Row w2 w.heap.size (.slice sa ps.length sc) ps) := Lib.hid (Rec.own_mono ho (by rw [World.size_alloc]; omega))
  clear ho hb2 HN1 HB1
  go_wp2
  go_loopw [6, 18] (fun u i wr => ∃ k : Nat, k ≤ ps.length ∧ i = .int .i64 (k : Int) ∧ Hid ((ps.take k).contains star = false) ∧ Hid (Row wr w.heap.size u ((ps.take k).map Tx.lower)) ∧ Hid (∀ g, u.ownBlock = some g → some g ≠ Value.ownBlock (.slice sa ps.length sc)) ∧ Hid (Row wr w.heap.size (.slice sa ps.length sc) ps) ∧ Below w.heap.size w wr) (fun _ i _ => ps.length - (intOf i).toNat)
  case atStart => exact ⟨0, Nat.zero_le _, rfl, Lib.hid (by simp), HN2, HE2, HS2, HB2.out⟩
  case round =>
    clear HN2 HE2 HS2 HB2
    obtain ⟨k, hk, rfl, HC, HN, HE, HS, hb⟩ := hrel
    have HB := Lib.hid hb
    have hbs := hb.size
    clear hb
    by_cases hlt : k < ps.length
    · obtain ⟨g0, rfl, c0⟩ := own_at HS.out hlt
      have hxl := HPL.out _ (Onc.mem_at hlt)
      have HM := Lib.hid (map_more hlt)
      have HST := Lib.hid (fun e => vy_star hlt e)
      have HMO := Lib.hid (fun e => vy_more hlt HC.out e)
      generalize ps.getD k [] = x at c0 hxl HM HST HMO
      have hki : (k : Int) < (ps.length : Int) := by omega
      have hpl := HPC.out
      by_cases e : x = star
      · have HR := Lib.hid (HV.out.trans (HST.out e))
        have HLN := Lib.hid (Strs.own_lit_nil wr)
        have HBA := Lib.hid (HB.out.alloc HB.out.size (.cells #[] 9))
        subst e
        unfold star at c0
        clear HST HMO HM hxl
        go_wp2
        go_ret2
        exact vy_ret HR.out (Rec.own_mono HLN.out hbs) HBA.out
      · have HC1 := Lib.hid (HMO.out e)
        have hsx : (⟨x.toArray⟩ : ByteArray).size = x.length := by simp [ByteArray.size]
        have HLO := Lib.hid (fun W => low_i x (by omega) W)
        have hq : ¬ x = [42] := e
        have hq1 : (x == [42]) = false := by simpa using hq
        have HLX : Hid ((Tx.lower x).length ≤ 4194304) := Lib.hid (by rw [low_len]; exact hxl)
        have HNL : Hid (((ps.take k).map Tx.lower).length ≤ 8000000) := Lib.hid (by rw [List.length_map, List.length_take]; have := HPC.out; omega)
        clear HST HMO e hxl hsx HC
        go_wp2_with (fail)
        go_at_call 27
        refine (HLO.out _).mono ?_
        rintro e w3 ⟨rfl, hb3⟩
        have HB3 := Lib.hid (Base.then_below HB.out hb3)
        have HN3 := Lib.hid (Rec.row_below HN.out hb3)
        have HS3 := Lib.hid (Rec.row_below HS.out hb3)
        generalize (ps.take k).map Tx.lower = m at HN3 HM HNL
        generalize Tx.lower x = y at HM HLX ⊢
        have hml := Strs.svs_len m
        have hbs3 := HB3.out.size
        clear hb3 HN HS HB HLO
        go_wp2_with (at_builtin; refine Apw.append_where _ rfl (.tmp 25) (.tmp 28) 27 rfl w.heap.size 9 i0 (.string ⟨#[]⟩) 1 16 Tryz.underlying27 hi hz0 hz1 hz2 rfl (by decide) _ _ _ rfl (HN3.out.alloc _) ⟨w3.heap.size, 0, none⟩ 1 1 [.string ⟨y.toArray⟩] rfl rfl (Strs.news_one _ _ _) (Strs.sv_one y) (by decide) (by have := HNL.out; unfold maxLen; omega) (by have := HNL.out; omega) (by simp; omega) ?_; intro v1 w4 hown1 hg1 hwh)
        have HP := Lib.hid (Strs.push_own (x := y) HN3.out HB3.out (Nat.le_refl _) hown1 hg1)
        have HS4 := Lib.hid (Rec.row_grown (HS3.out.alloc _) hg1 (fun g hg hx => HE.out g hx.symm hg.symm))
        have HE4 : Hid (∀ g, v1.ownBlock = some g → some g ≠ Value.ownBlock (.slice (some ⟨g0, 0, none⟩) ps.length sc)) := Lib.hid (fun g hg hx => by
          rcases hwh with hwh | hwh
          · exact HE.out g (hwh ▸ hg) hx
          · have h8 := (HS3.out.lt g hx.symm).2
            rw [hwh] at hg
            cases hg
            simp only [World.size_alloc] at h8
            omega)
        clear hown1 hg1 hwh
        go_wp2
        go_roundw
        case rel => exact ⟨k + 1, by omega, by go_num, HC1, by rw [HM.out]; exact Lib.hid HP.out.1, HE4, HS4, HP.out.2⟩
        case measure => simp [intOf]; omega
    · obtain rfl : k = ps.length := by omega
      have HR := Lib.hid (HV.out.trans (vy_end rfl HC.out))
      have HO : Hid (OncCall wr u6 ps) := Lib.hid (by
        have h1 := HN.out
        rw [List.take_length] at h1
        exact Onc.impl_once u6 _ (ps.map Tx.lower) wr (Strs.own_holds h1) (Nat.le_refl _) (by rw [List.length_map]; exact HPC.out) (fun x hx => by
          obtain ⟨y, hy, rfl⟩ := List.mem_map.1 hx
          rw [low_len]; exact HPL.out y hy))
      unfold OncCall Onc.OncEnd at HO
      clear HC HN HE HS
      go_wp2_with (fail)
      go_at_call 28
      refine HO.out.mono ?_
      rintro e w5 ⟨ru, rfl, ho, hb5⟩
      have HB5 := Lib.hid (Base.then_below HB.out hb5)
      have HO5 := Lib.hid (Rec.own_mono ho hbs)
      clear ho hb5
      go_wp2
      go_ret2
      exact vy_ret HR.out HO5.out HB5.out

end Go.Proofs.YtegaakgmfphcaaaGreatDoor.Vyo

/-
  PLAIN FACTS on slices of Directive (written by rec.py): what a slice holds, how that is kept, and how a slice that the call itself has built is such a one.
-/
namespace Go.Proofs.YtegaakgmfphcaaaGreatDoor.Dir
open Go Go.RowKit
set_option linter.unusedVariables false
set_option maxRecDepth 1000000

abbrev T : Type := List UInt8 × List UInt8 × Bool
def nov : T := ([], [], false)
def cs (f : T) : List Value := [.string ⟨(f.1).toArray⟩, .string ⟨(f.2.1).toArray⟩, .bool (f.2.2)]
def fv (f : T) : Value := .agg #[.string ⟨(f.1).toArray⟩, .string ⟨(f.2.1).toArray⟩, .bool (f.2.2)]
theorem cs_len (f : T) : (cs f).length = 3 := rfl
theorem cs_one (f : T) : ∀ u ∈ cs f, u.oneCell' = true := by
  intro u hu; simp [cs] at hu; rcases hu with rfl | rfl | rfl <;> rfl
def fcs (l : List T) : List Value := Rec.flat cs l
theorem fcs_len (l : List T) : (fcs l).length = l.length * 3 := Rec.flat_len cs_len l
theorem fcs_more (l : List T) (f : T) : fcs (l ++ [f]) = fcs l ++ [.string ⟨(f.1).toArray⟩, .string ⟨(f.2.1).toArray⟩, .bool (f.2.2)] := Rec.flat_more l f
theorem fcs_one (l : List T) : ∀ u ∈ fcs l, u.oneCell' = true := Rec.flat_one cs_one l
theorem fcs_put {l : List T} {k : Nat} (f : T) (h : k < l.length) : (((fcs l).set (k * 3) (.string ⟨(f.1).toArray⟩)).set (k * 3 + 1) (.string ⟨(f.2.1).toArray⟩)).set (k * 3 + 2) (.bool (f.2.2)) = fcs (l.set k f) := Rec.flat_put cs_len f h
def Ok (f : T) : Prop := f.1.length ≤ maxLen ∧ f.2.1.length ≤ maxLen
/-- The cells from (b, off) on are these. -/
def At (w : World) (b off : Nat) (l : List T) : Prop := Rec.At 3 cs nov w b off l
/-- The slice v reads as l; its cells lie below block B. -/
def Holds (w : World) (B : Nat) (v : Value) (l : List T) : Prop := Rec.Holds 3 cs nov w B v l
theorem holds_iff {w : World} {B : Nat} {v : Value} {l : List T} (h : Holds w B v l) : (l = [] ∧ ∃ a cap, v = .slice a 0 cap) ∨ (0 < l.length ∧ ∃ b off cap, v = .slice (some ⟨b, off, none⟩) l.length cap ∧ b < B ∧ l.length ≤ cap ∧ At w b off l) := h
theorem holds_nil (w : World) (B : Nat) (a : Option Addr) (cap : Nat) : Holds w B (.slice a 0 cap) [] := Or.inl ⟨rfl, _, _, rfl⟩
theorem at_cells {w : World} {b off : Nat} {l : List T} (h : At w b off l) {j : Nat} (hj : j < l.length) : w.cell? ⟨b, off + j * 3, none⟩ = some (.string ⟨((l.getD j nov).1).toArray⟩) ∧ w.cell? ⟨b, off + j * 3 + 1, none⟩ = some (.string ⟨((l.getD j nov).2.1).toArray⟩) ∧ w.cell? ⟨b, off + j * 3 + 2, none⟩ = some (.bool ((l.getD j nov).2.2)) := ⟨h j hj 0 _ rfl, h j hj 1 _ rfl, h j hj 2 _ rfl⟩
theorem at_lt {w : World} {b off : Nat} {l : List T} (h : At w b off l) (h0 : 0 < l.length) : b < w.heap.size := Rec.at_lt cs_len (by decide) h h0
theorem at_below {w w' : World} {B b off : Nat} {l : List T} (h : At w b off l) (hb : Below B w w') (hlt : b < B) : At w' b off l := Rec.at_below h hb hlt
theorem holds_more {w : World} {B B' : Nat} {v : Value} {l : List T} (h : Holds w B v l) (hB : B ≤ B') : Holds w B' v l := Rec.holds_more h hB
theorem holds_below {w w' : World} {B : Nat} {v : Value} {l : List T} (h : Holds w B v l) (hb : Below B w w') : Holds w' B v l := Rec.holds_below h hb
theorem holds_grown {w w' : World} {B : Nat} {v : Value} {l : List T} {row : Option Nat} (h : Holds w B v l) (hg : w.grownBy w' row) (hr : ∀ k, row = some k → B ≤ k) : Holds w' B v l := Rec.holds_grown h hg hr
theorem holds_drew {w : World} {B : Nat} {v : Value} {l : List T} (h : Holds w B v l) : Holds w.drew B v l := h
def part (l : List T) (k : Nat) : List T := Rec.part nov l k
theorem part_len (l : List T) {k : Nat} (h : k ≤ l.length) : (part l k).length = l.length := Rec.part_len l h
theorem part_all (l : List T) : part l l.length = l := Rec.part_all l
theorem part_more {l : List T} {k : Nat} (h : k < l.length) : (part l k).set k (l.getD k nov) = part l (k + 1) := Rec.part_more h
theorem made_part (l : List T) : (madeCells (Value.agg #[.string ⟨#[]⟩, .string ⟨#[]⟩, .bool false]).cells (l.length * 3)).toList = fcs (part l 0) := Rec.made_part cs_len (by decide) l _ rfl
def wt (f : T) : Nat := f.1.length + f.2.1.length
def total (l : List T) : Nat := Rec.total wt l
theorem len_le_total (l : List T) : l.length ≤ total l := Rec.len_le_total wt l
theorem mem_total {l : List T} {f : T} (h : f ∈ l) : wt f ≤ total l := Rec.mem_total wt h
end Go.Proofs.YtegaakgmfphcaaaGreatDoor.Dir

/-
  CONTRACT of strings.Cut at a separator of one byte: what stands before the first such byte, what stands behind it, and whether there is one; nothing that was there before is changed.
-/
namespace Go.Proofs.YtegaakgmfphcaaaGreatDoor.Tx
open Go Go.RowKit
set_option linter.unusedVariables false
set_option maxRecDepth 1000000

theorem indexByte_idx (c : UInt8) (l : List UInt8) : Lib.indexByte l c = if idx c l < l.length then (idx c l : Int) else -1 := by
  induction l with
  | nil => simp [Lib.indexByte, idx]
  | cons a r ih =>
    unfold Lib.indexByte idx
    by_cases h : a == c
    · rw [if_pos h, if_pos h, if_pos (by simp)]; rfl
    · rw [if_neg h, if_neg h, ih]
      by_cases hl : idx c r < r.length
      · have hn : ((idx c r : Int) == -1) = false := by rw [beq_eq_false_iff_ne]; omega
        rw [if_pos hl, hn, if_neg (by simp), if_pos (by simp; omega)]; omega
      · rw [if_neg hl, if_pos (by decide), if_neg (by simp; omega)]
/-- How a cut ends. -/
def CutEnd (c : UInt8) (l : List UInt8) (w : World) (e : Ending) (w' : World) : Prop :=
  e = .returned (.tuple #[.string ⟨(cutAt c l).1.toArray⟩, .string ⟨(cutAt c l).2.1.toArray⟩, .bool (cutAt c l).2.2]) ∧ Below w.heap.size w w'
theorem below_drewN' {B : Nat} {a w : World} (h : Below B a w) (n : Nat) : Below B a (w.drewN n) := ⟨h.os, h.tape, h.output, h.size, h.block⟩
theorem ext_eq (s : ByteArray) (a b : Nat) : s.extract a b = ⟨((s.data.toList.drop a).take (b - a)).toArray⟩ := by
  apply ByteArray.ext
  rw [ByteArray.data_extract]
  apply Array.ext'
  simp
theorem cut_hit {s : ByteArray} {c : UInt8} {w w' : World} {i : Nat} (hi : i = idx c s.data.toList) (h : i < s.size) (hb : Below w.heap.size w w') :
    CutEnd c s.data.toList w (.returned (.tuple #[.string (s.extract 0 i), .string (s.extract (i + 1) s.size), .bool true])) w' := by
  have hl : s.data.toList.length = s.size := by rw [Array.length_toList]; rfl
  have e : cutAt c s.data.toList = (s.data.toList.take i, s.data.toList.drop (i + 1), true) := by
    unfold cutAt; rw [← hi, hl, if_pos h]
  unfold CutEnd
  rw [e, ext_eq, ext_eq]
  refine ⟨?_, hb⟩
  have h2 : (s.data.toList.drop (i + 1)).take (s.size - (i + 1)) = s.data.toList.drop (i + 1) := List.take_of_length_le (by rw [List.length_drop, hl]; omega)
  rw [h2, List.drop_zero, Nat.sub_zero]
theorem cut_miss {s : ByteArray} {c : UInt8} {w w' : World} (h : ¬ idx c s.data.toList < s.size) (hb : Below w.heap.size w w') :
    CutEnd c s.data.toList w (.returned (.tuple #[.string s, .string ⟨#[]⟩, .bool false])) w' := by
  have hl : s.data.toList.length = s.size := by rw [Array.length_toList]; rfl
  have e : cutAt c s.data.toList = (s.data.toList, [], false) := by
    unfold cutAt; rw [hl, if_neg h]
  unfold CutEnd
  rw [e]
  exact ⟨by simp, hb⟩

set_option maxHeartbeats 1000000 in
theorem lite_cut (s : ByteArray) (c : UInt8) (w : World) (hs : s.size ≤ 9223372036854775806) :
    Calls Tryz.prog 66 #[.string s, .string ⟨#[c]⟩] w (CutEnd c s.data.toList w) := by
  have hl : s.data.toList.length = s.size := by rw [Array.length_toList]; rfl
  have c1 := Tryz.stringslite_Index_one s c w
  rw [indexByte_idx, hl] at c1
  by_cases h : idx c s.data.toList < s.size
  · rw [if_pos h] at c1
    obtain ⟨i, hi⟩ : ∃ i, i = idx c s.data.toList := ⟨_, rfl⟩
    rw [← hi] at c1 h
    have HI := Lib.hid hi
    clear hi hl
    go_enter Tryz.func66, Tryz.ntmps66
    go_wp2_with (go_at_call 87; refine c1.mono ?_; rintro e w' ⟨rfl, rfl⟩)
    go_quiet (fail)
    go_wp2
    go_ret3
    exact cut_hit HI.out h (below_drewN' (Below.refl _ _) _)
  · rw [if_neg h] at c1
    have H := Lib.hid h
    clear h hl
    go_enter Tryz.func66, Tryz.ntmps66
    go_wp2_with (go_at_call 87; refine c1.mono ?_; rintro e w' ⟨rfl, rfl⟩)
    go_ret3
    exact cut_miss H.out (Below.refl _ _)

theorem cut_any (s : ByteArray) (c : UInt8) (w : World) (hs : s.size ≤ 9223372036854775806) :
    Calls Tryz.prog 45 #[.string s, .string ⟨#[c]⟩] w (CutEnd c s.data.toList w) := by
  have c1 := lite_cut s c w hs
  go_enter Tryz.func45, Tryz.ntmps45
  go_wp2_with (go_at_call 66; refine c1.mono ?_; rintro e w' ⟨rfl, hb⟩)
  go_ret3
  exact ⟨rfl, hb⟩
end Go.Proofs.YtegaakgmfphcaaaGreatDoor.Tx

/-
  CONTRACTS of both sides' SplitPair: at every text each returns what stands on both sides of the first =, trimmed, and whether there is one; nothing that was there before is changed.
-/
namespace Go.Proofs.YtegaakgmfphcaaaGreatDoor.Tx
open Go Go.RowKit
set_option linter.unusedVariables false
set_option maxRecDepth 1000000

def pairs (l : List UInt8) : List UInt8 × List UInt8 × Bool := (trim (cutAt 61 l).1, trim (cutAt 61 l).2.1, (cutAt 61 l).2.2)
def PairEnd (l : List UInt8) (w : World) (e : Ending) (w' : World) : Prop :=
  e = .returned (.tuple #[.string ⟨(pairs l).1.toArray⟩, .string ⟨(pairs l).2.1.toArray⟩, .bool (pairs l).2.2]) ∧ Below w.heap.size w w'
theorem pair_end {l x y : List UInt8} {b : Bool} {w w' : World} (h : pairs l = (x, y, b)) (hb : Below w.heap.size w w') : PairEnd l w (.returned (.tuple #[.string ⟨x.toArray⟩, .string ⟨y.toArray⟩, .bool b])) w' := by
  unfold PairEnd; rw [h]; exact ⟨rfl, hb⟩
theorem cutAt_len (c : UInt8) (l : List UInt8) : (cutAt c l).1.length ≤ l.length ∧ (cutAt c l).2.1.length ≤ l.length := by
  unfold cutAt; split <;> simp <;> omega
theorem impl_trim_list (l : List UInt8) (w : World) (hs : l.length ≤ 9223372036854775806) :
    Calls Tryz.prog 72 #[.string ⟨l.toArray⟩] w fun e w' => e = .returned (.string ⟨(trim l).toArray⟩) ∧ Below w.heap.size w w' := impl_trim ⟨l.toArray⟩ w (Nat.le_trans hs (by decide))

set_option maxHeartbeats 1000000 in
theorem impl_pair (s : ByteArray) (w : World) (hs : s.size ≤ 9223372036854775806) :
    Calls Tryz.prog 95 #[.string s] w (PairEnd s.data.toList w) := by
  have hl : s.data.toList.length = s.size := by rw [Array.length_toList]; rfl
  have HL := Lib.hid (cutAt_len 61 s.data.toList)
  have c1 := cut_any s 61 w hs
  unfold CutEnd at c1
  have HP : Hid (pairs s.data.toList = (trim (cutAt 61 s.data.toList).1, trim (cutAt 61 s.data.toList).2.1, (cutAt 61 s.data.toList).2.2)) := Lib.hid rfl
  generalize (cutAt 61 s.data.toList).1 = x, (cutAt 61 s.data.toList).2.1 = y, (cutAt 61 s.data.toList).2.2 = b at *
  go_enter Tryz.func95, Tryz.ntmps95
  go_wp2_with (fail)
  go_at_call 45
  refine c1.mono ?_
  rintro e w1 ⟨rfl, hb1⟩
  go_wp2_with (fail)
  go_at_call 72
  refine (impl_trim_list x _ (by have := HL.out; omega)).mono ?_
  rintro e w2 ⟨rfl, hb2⟩
  go_wp2_with (fail)
  go_at_call 72
  refine (impl_trim_list y _ (by have := HL.out; omega)).mono ?_
  rintro e w3 ⟨rfl, hb3⟩
  go_wp2
  go_ret3
  exact pair_end HP.out (Base.then_below (Base.then_below hb1 hb2) hb3)

theorem pair_hit {s : ByteArray} {w w' : World} {k : Nat} (hk : k < s.size) (h1 : ∀ j (hj : j < s.data.toList.length), j < k → s.data.toList[j] ≠ 61) (h2 : ∀ h : k < s.data.toList.length, s.data.toList[k] = 61) (hb : Below w.heap.size w w') :
    PairEnd s.data.toList w (.returned (.tuple #[.string ⟨(trim (s.extract 0 k).data.toList).toArray⟩, .string ⟨(trim (s.extract (k + 1) s.size).data.toList).toArray⟩, .bool true])) w' := by
  have hl : s.data.toList.length = s.size := by rw [Array.length_toList]; rfl
  have hi : k = idx 61 s.data.toList := (idx_eq (by omega) h1 h2).symm
  have e : cutAt 61 s.data.toList = (s.data.toList.take k, s.data.toList.drop (k + 1), true) := by
    unfold cutAt; rw [← hi, hl, if_pos hk]
  unfold PairEnd pairs
  rw [e, ext_eq, ext_eq]
  refine ⟨?_, hb⟩
  have h2 : (s.data.toList.drop (k + 1)).take (s.size - (k + 1)) = s.data.toList.drop (k + 1) := List.take_of_length_le (by rw [List.length_drop, hl]; omega)
  rw [h2, List.drop_zero, Nat.sub_zero]
theorem pair_miss {s : ByteArray} {w w' : World} (h1 : ∀ j (hj : j < s.data.toList.length), j < s.size → s.data.toList[j] ≠ 61) (hb : Below w.heap.size w w') :
    PairEnd s.data.toList w (.returned (.tuple #[.string ⟨(trim s.data.toList).toArray⟩, .string ⟨#[]⟩, .bool false])) w' := by
  have hl : s.data.toList.length = s.size := by rw [Array.length_toList]; rfl
  have hi : idx 61 s.data.toList = s.size := idx_eq (by omega) h1 (fun h => absurd h (by omega))
  have e : cutAt 61 s.data.toList = (s.data.toList, [], false) := by
    unfold cutAt; rw [hi, hl, if_neg (by omega)]
  unfold PairEnd pairs
  rw [e]
  exact ⟨rfl, hb⟩

end Go.Proofs.YtegaakgmfphcaaaGreatDoor.Tx

/-
  PLAIN FACTS on the directives that are read from a text.
-/
namespace Go.Proofs.YtegaakgmfphcaaaGreatDoor.Dir
open Go Go.RowKit
set_option linter.unusedVariables false
set_option maxRecDepth 1000000

/-- The directive that an element is, if it is one. -/
def dread (x : List UInt8) : Option T :=
  if Tx.token (Tx.pairs x).1 then
    if (Tx.pairs x).2.2 then
      if Tx.token (Tx.pairs x).2.1 then some (Tx.lower (Tx.pairs x).1, (Tx.pairs x).2.1, true)
      else if Tx.unqOk (Tx.pairs x).2.1 then some (Tx.lower (Tx.pairs x).1, Tx.unqText (Tx.pairs x).2.1, true) else none
    else some (Tx.lower (Tx.pairs x).1, [], false)
  else none
def dparts (xs : List (List UInt8)) : List T := xs.filterMap dread
def dparse (s : List UInt8) : List T := dparts (Tx.split s)
theorem dparts_more {xs : List (List UInt8)} {k : Nat} (h : k < xs.length) : dparts (xs.take (k + 1)) = dparts (xs.take k) ++ (dread (xs.getD k [])).toList := by
  unfold dparts
  rw [List.take_succ_eq_append_getElem h, List.filterMap_append, show xs.getD k [] = xs[k] by simp [List.getD, h]]
  rw [List.filterMap_cons, List.filterMap_nil]
  cases hx : dread xs[k] <;> simp [hx]
theorem dparts_yes {xs : List (List UInt8)} {k : Nat} {d : T} (h : k < xs.length) (hd : dread (xs.getD k []) = some d) : dparts (xs.take (k + 1)) = dparts (xs.take k) ++ [d] := by rw [dparts_more h, hd]; rfl
theorem dparts_no {xs : List (List UInt8)} {k : Nat} (h : k < xs.length) (hd : dread (xs.getD k []) = none) : dparts (xs.take (k + 1)) = dparts (xs.take k) := by rw [dparts_more h, hd]; simp
theorem dparts_len (xs : List (List UInt8)) : (dparts xs).length ≤ xs.length := List.length_filterMap_le _ _
theorem tokc_low (c : UInt8) : Tx.tokc (Tx.lowc c) = Tx.tokc c := by
  have h : ∀ n : Fin 256, Tx.tokc (Tx.lowc (UInt8.ofNat n.1)) = Tx.tokc (UInt8.ofNat n.1) := by decide +kernel
  have e : UInt8.ofNat c.toNat = c := by simp
  have := h ⟨c.toNat, c.toNat_lt⟩
  rw [e] at this; exact this
theorem token_low (l : List UInt8) : Tx.token (Tx.lower l) = Tx.token l := by
  unfold Tx.token Tx.lower
  rw [List.all_map, List.length_map]
  congr 1
  congr 1
  funext c; exact tokc_low c
theorem token_head {c : UInt8} {r : List UInt8} (h : Tx.tokc c = false) : Tx.token (c :: r) = false := by unfold Tx.token; simp [h]
theorem token_nil : Tx.token [] = false := rfl
theorem quote_token (r : List UInt8) : Tx.token (34 :: r) = false := token_head (by decide)
theorem unq_head {c : UInt8} {r : List UInt8} (h : c ≠ 34) : Tx.unqOk (c :: r) = false := by unfold Tx.unqOk; simp [h]
theorem unq_empty : Tx.unqOk [] = false := rfl
theorem pairs_no {x : List UInt8} (h : (Tx.pairs x).2.2 = false) : (Tx.pairs x).2.1 = [] := by
  unfold Tx.pairs Tx.cutAt at *
  split at h
  · simp at h
  · rename_i h1; rw [if_neg h1]; rfl
/-- The parts of an element, with what dread makes of them. -/
theorem dread_eq {x a b : List UInt8} {q : Bool} (h : Tx.pairs x = (a, b, q)) : dread x = if Tx.token a then (if q then (if Tx.token b then some (Tx.lower a, b, true) else if Tx.unqOk b then some (Tx.lower a, Tx.unqText b, true) else none) else some (Tx.lower a, [], false)) else none := by
  unfold dread; rw [h]
theorem trim_len (l : List UInt8) : (Tx.trim l).length ≤ l.length := by
  obtain ⟨q, hq, _⟩ := Tx.trimr_prefix l
  obtain ⟨p, hp, _⟩ := Tx.triml_suffix (Tx.trimr l)
  have h1 := congrArg List.length hq
  have h2 := congrArg List.length hp
  rw [List.length_append] at h1 h2
  show (Tx.triml (Tx.trimr l)).length ≤ l.length
  omega
theorem pairs_len (x : List UInt8) : (Tx.pairs x).1.length ≤ x.length ∧ (Tx.pairs x).2.1.length ≤ x.length := by
  have h := Tx.cutAt_len 61 x
  unfold Tx.pairs
  exact ⟨Nat.le_trans (trim_len _) h.1, Nat.le_trans (trim_len _) h.2⟩
end Go.Proofs.YtegaakgmfphcaaaGreatDoor.Dir

/-
  PLAIN FACTS OF DECIMAL NUMERALS: the digits of a number as the model writes them, one in front of the other; no word of the program stands here.
-/
namespace Go.Proofs.YtegaakgmfphcaaaGreatDoor.Fmt
open Go Go.RowKit
set_option linter.unusedVariables false
set_option maxRecDepth 1000000

/-- the digits of u; nothing for 0. -/
def dd (u : Nat) : List UInt8 := if u = 0 then [] else Lib.decDigits u
theorem dd_zero : dd 0 = [] := rfl
theorem dd_pos {u : Nat} (h : u ≠ 0) : dd u = Lib.decDigits u := by unfold dd; rw [if_neg h]
theorem dd_step {u : Nat} (h : u ≠ 0) : dd u = dd (u / 10) ++ [UInt8.ofNat (48 + u % 10)] := by
  rw [dd_pos h, Lib.decDigits]
  by_cases hs : u < 10
  · rw [dif_pos hs, show u / 10 = 0 by omega, dd_zero, show u % 10 = u by omega]; rfl
  · rw [dif_neg hs, dd_pos (by omega)]
theorem nDigits_le (k : Nat) : ∀ u : Nat, u < 10 ^ k → Lib.nDigits u ≤ max k 1 := by
  induction k with
  | zero => intro u h; rw [Lib.nDigits_small (by simp at h; omega)]; omega
  | succ k ih =>
    intro u h
    by_cases hs : u < 10
    · rw [Lib.nDigits_small hs]; omega
    · rw [Lib.nDigits_big hs]
      have hk : k ≠ 0 := by rintro rfl; simp at h; omega
      have := ih (u / 10) (by rw [Nat.pow_succ] at h; omega)
      omega
theorem dd_len {u : Nat} (h : u ≤ 9223372036854775808) : (dd u).length ≤ 19 := by
  unfold dd
  split
  · simp
  · rw [Lib.decDigits_length]
    have := nDigits_le 19 u (by omega)
    omega
theorem itoa_zero : Lib.itoa 0 = [48] := by decide +kernel
theorem itoa_pos {n : Int} (h : 0 < n) : Lib.itoa n = dd n.natAbs := by
  unfold Lib.itoa; rw [if_neg (by omega), dd_pos (by omega)]; congr 1; omega
theorem itoa_neg {n : Int} (h : n < 0) : Lib.itoa n = 45 :: dd n.natAbs := by
  unfold Lib.itoa; rw [if_pos h, dd_pos (by omega)]
theorem itoa_len {n : Int} (h0 : -9223372036854775808 ≤ n) (h1 : n ≤ 9223372036854775807) : 1 ≤ (Lib.itoa n).length ∧ (Lib.itoa n).length ≤ 20 := by
  have hl := dd_len (u := n.natAbs) (by omega)
  rcases Int.lt_trichotomy n 0 with h | h | h
  · rw [itoa_neg h]; simp; omega
  · subst h; rw [itoa_zero]; simp
  · rw [itoa_pos h]
    refine ⟨?_, by omega⟩
    rw [dd_step (by omega)]; simp
end Go.Proofs.YtegaakgmfphcaaaGreatDoor.Fmt

/-
  PLAIN FACTS of texts that are numbers: what the decimal numeral of a number is worth, and that no text is the numeral of two numbers. No word of the program stands here.
-/
namespace Go.Proofs.YtegaakgmfphcaaaGreatDoor.Par
open Go Go.RowKit
set_option linter.unusedVariables false
set_option maxRecDepth 1000000

/-- what the bytes are worth, read as digits behind acc. -/
def stp (a : Nat) (c : UInt8) : Nat := 10 * a + (c.toNat - 48)
def val (acc : Nat) (l : List UInt8) : Nat := l.foldl stp acc
theorem val_nil (a : Nat) : val a [] = a := by unfold val; rw [List.foldl_nil]
theorem val_cons' (a : Nat) (c : UInt8) (r : List UInt8) : val a (c :: r) = val (stp a c) r := by unfold val; rw [List.foldl_cons]
theorem val_cons (a : Nat) (c : UInt8) (r : List UInt8) : val a (c :: r) = val (10 * a + (c.toNat - 48)) r := by rw [val_cons']; unfold stp; rfl
theorem val_one (a : Nat) (c : UInt8) : val a [c] = 10 * a + (c.toNat - 48) := by rw [val_cons', val_nil]; unfold stp; rfl
def isDig (c : UInt8) : Bool := decide (48 ≤ c.toNat ∧ c.toNat ≤ 57)
theorem val_append (l r : List UInt8) (a : Nat) : val a (l ++ r) = val (val a l) r := by unfold val; rw [List.foldl_append]
theorem dig_val (d : Nat) (h : d < 10) : (UInt8.ofNat (48 + d)).toNat = 48 + d := by rw [UInt8.toNat_ofNat']; omega
theorem dec_val (u : Nat) : val 0 (Lib.decDigits u) = u := by
  induction u using Nat.strongRecOn with
  | _ u ih =>
    rw [Lib.decDigits]
    by_cases h : u < 10
    · rw [dif_pos h, val_one, dig_val u h]; omega
    · rw [dif_neg h, val_append, ih (u / 10) (by omega), val_one, dig_val (u % 10) (by omega)]; omega
theorem dec_dig (u : Nat) : ∀ c ∈ Lib.decDigits u, 48 ≤ c.toNat ∧ c.toNat ≤ 57 := by
  induction u using Nat.strongRecOn with
  | _ u ih =>
    rw [Lib.decDigits]
    by_cases h : u < 10
    · rw [dif_pos h]; intro c hc
      rw [List.mem_singleton] at hc; subst hc; rw [dig_val u h]; omega
    · rw [dif_neg h]; intro c hc
      rcases List.mem_append.1 hc with k | k
      · exact ih (u / 10) (by omega) c k
      · rw [List.mem_singleton] at k; subst k
        rw [dig_val (u % 10) (by omega)]; omega
theorem itoa_nat {v : Int} (h : 0 ≤ v) : Lib.itoa v = Lib.decDigits v.toNat := by unfold Lib.itoa; rw [if_neg (by omega)]
theorem itoa_val {v : Int} (h : 0 ≤ v) : (val 0 (Lib.itoa v) : Int) = v := by rw [itoa_nat h, dec_val]; omega
theorem itoa_inj {u v : Int} (hu : 0 ≤ u) (hv : 0 ≤ v) (h : Lib.itoa u = Lib.itoa v) : u = v := by rw [← itoa_val hu, ← itoa_val hv, h]

/-- (v, b) is what ParseInt answers at the bytes l. -/
def PS (l : List UInt8) (v : Int) (b : Bool) : Prop :=
  (b = true ∧ 0 ≤ v ∧ v ≤ 1000000000000 ∧ Lib.itoa v = l) ∨ (b = false ∧ v = 0 ∧ ∀ u : Int, 0 ≤ u → u ≤ 1000000000000 → Lib.itoa u ≠ l)
theorem PS.uniq {l : List UInt8} {v v' : Int} {b b' : Bool} (h : PS l v b) (h' : PS l v' b') : v = v' ∧ b = b' := by
  rcases h with ⟨rfl, h1, h2, h3⟩ | ⟨rfl, rfl, hn⟩ <;> rcases h' with ⟨rfl, k1, k2, k3⟩ | ⟨rfl, rfl, kn⟩
  · exact ⟨itoa_inj h1 k1 (h3.trans k3.symm), rfl⟩
  · exact absurd h3 (kn _ h1 h2)
  · exact absurd k3 (hn _ k1 k2)
  · exact ⟨rfl, rfl⟩

/-- digits of at most 18 places are read by the library's reader as they are worth. -/
theorem uint_val (l : List UInt8) : ∀ (k acc : Nat), (∀ c ∈ l, 48 ≤ c.toNat ∧ c.toNat ≤ 57) → acc < 10 ^ k → k + l.length ≤ 18 → Lib.parseUint10 acc l = .ok (val acc l) := by
  induction l with
  | nil => intro k acc _ _ _; rw [Lib.parseUint10, val_nil]
  | cons c r ih =>
    intro k acc hd ha hl
    have hc := hd c (List.mem_cons_self ..)
    have hl' : r.length + 1 = (c :: r).length := rfl
    have hp : 10 ^ (k + 1) = 10 ^ k * 10 := Nat.pow_succ ..
    have hq : 10 ^ k ≤ 10 ^ 17 := Nat.pow_le_pow_right (by omega) (by omega)
    have hn : 10 * acc + (c.toNat - 48) < 10 ^ (k + 1) := by omega
    have h1 : ¬ 1844674407370955162 ≤ acc := by omega
    have h2 : ¬ 18446744073709551616 ≤ acc * 10 + (c.toNat - 48) := by omega
    have hr := ih (k + 1) _ (fun x hx => hd x (List.mem_cons_of_mem _ hx)) hn (by omega)
    rw [Lib.parseUint10, if_pos hc, if_neg h1, if_neg h2, val_cons, Nat.mul_comm acc 10]
    exact hr
theorem atoi_itoa {u : Int} (h0 : 0 ≤ u) (h1 : u ≤ 1000000000000) : Lib.atoiAll (Lib.itoa u) = .ok u := by
  have hl : (Lib.decDigits u.toNat).length ≤ 13 := by
    rw [Lib.decDigits_length]
    have := Fmt.nDigits_le 13 u.toNat (by omega)
    omega
  have hv := uint_val (Lib.decDigits u.toNat) 0 0 (dec_dig _) (by decide) (by omega)
  rw [dec_val] at hv
  have hd := dec_dig u.toNat
  rw [itoa_nat h0]
  have hne : Lib.decDigits u.toNat ≠ [] := by
    intro e
    have := congrArg List.length e
    rw [Lib.decDigits_length] at this
    have := Lib.nDigits_pos u.toNat
    simp at *; omega
  match hm : Lib.decDigits u.toNat, hne with
  | c :: r, _ =>
    rw [hm] at hv hd
    have hc := hd c (List.mem_cons_self ..)
    rw [Lib.atoiAll_plain c r (by omega) (by omega)]
    unfold Lib.parseMag
    rw [if_neg (by simp), hv]
    show (if 9223372036854775808 ≤ u.toNat then Lib.NumEnd.range else .ok (u.toNat : Int)) = _
    rw [if_neg (by omega), show (u.toNat : Int) = u by omega]

/-- m is what the first k bytes are worth, all of them digits. -/
def Good (s : ByteArray) (k m : Nat) : Prop := m = val 0 (s.data.toList.take k) ∧ m < 10 ^ k ∧ ∀ c ∈ s.data.toList.take k, 48 ≤ c.toNat ∧ c.toNat ≤ 57
theorem good_zero (s : ByteArray) : Good s 0 0 := ⟨by simp [val_nil], by simp, by simp⟩
theorem take_snoc (s : ByteArray) (k : Nat) (h : k < s.size) : s.data.toList.take (k + 1) = s.data.toList.take k ++ [s[k]] := by
  rw [List.take_succ_eq_append_getElem (by simpa using h)]; rfl
theorem good_step {s : ByteArray} {k m : Nat} (h : k < s.size) (g : Good s k m) (h1 : 48 ≤ (s[k].toNat : Int)) (h2 : (s[k].toNat : Int) ≤ 57) : Good s (k + 1) (10 * m + (s[k].toNat - 48)) := by
  obtain ⟨rfl, g2, g3⟩ := g
  refine ⟨?_, ?_, ?_⟩
  · rw [take_snoc s k h, val_append, val_one]
  · have : 10 ^ (k + 1) = 10 ^ k * 10 := Nat.pow_succ ..
    omega
  · rw [take_snoc s k h]
    intro c hc
    rcases List.mem_append.1 hc with hc | hc
    · exact g3 c hc
    · rw [List.mem_singleton] at hc; subst hc; omega
theorem good_bound {s : ByteArray} {k m : Nat} (g : Good s k m) (hk : k ≤ 13) : m < 10000000000000 := by
  have : 10 ^ k ≤ 10 ^ 13 := Nat.pow_le_pow_right (by omega) hk
  have e : (10 : Nat) ^ 13 = 10000000000000 := by decide
  have := g.2.1
  omega
theorem itoa_short {u : Int} (h0 : 0 ≤ u) (h1 : u ≤ 1000000000000) : 1 ≤ (Lib.itoa u).length ∧ (Lib.itoa u).length ≤ 13 := by
  rw [itoa_nat h0, Lib.decDigits_length]
  have := Fmt.nDigits_le 13 u.toNat (by omega)
  have := Lib.nDigits_pos u.toNat
  omega
theorem size_len (s : ByteArray) : s.data.toList.length = s.size := Array.length_toList
theorem ps_short {s : ByteArray} (h : (s.size : Int) < 1 ∨ 13 < (s.size : Int)) : PS s.data.toList 0 false := by
  refine Or.inr ⟨rfl, rfl, fun u h0 h1 e => ?_⟩
  have := itoa_short h0 h1
  rw [e] at this
  have hz := size_len s
  omega
theorem ps_bad {s : ByteArray} {k : Nat} (h : k < s.size) (hc : (s[k].toNat : Int) < 48 ∨ 57 < (s[k].toNat : Int)) : PS s.data.toList 0 false := by
  refine Or.inr ⟨rfl, rfl, fun u h0 h1 e => ?_⟩
  have hm : s[k] ∈ s.data.toList := by
    have : s[k] = s.data.toList[k]'(by simpa using h) := rfl
    rw [this]; exact List.getElem_mem _
  rw [← e, itoa_nat h0] at hm
  have := dec_dig _ _ hm
  omega
theorem good_val {s : ByteArray} {m : Nat} (g : Good s s.size m) : m = val 0 s.data.toList := by
  have hz := size_len s
  have := g.1
  rwa [← hz, List.take_length] at this
theorem ps_great {s : ByteArray} {m : Nat} (g : Good s s.size m) (h : 1000000000000 < (m : Int)) : PS s.data.toList 0 false := by
  refine Or.inr ⟨rfl, rfl, fun u h0 h1 e => ?_⟩
  have := itoa_val h0
  rw [e, ← good_val g] at this
  omega
theorem ps_other {s : ByteArray} {m : Nat} (g : Good s s.size m) (h : Lib.itoa m ≠ s.data.toList) : PS s.data.toList 0 false := by
  refine Or.inr ⟨rfl, rfl, fun u h0 h1 e => ?_⟩
  have := itoa_val h0
  rw [e, ← good_val g] at this
  rw [this] at h
  exact h e
theorem ps_is {s : ByteArray} {m : Nat} (h : (m : Int) ≤ 1000000000000) (e : Lib.itoa m = s.data.toList) : PS s.data.toList m true := Or.inl ⟨rfl, by omega, h, e⟩
end Go.Proofs.YtegaakgmfphcaaaGreatDoor.Par
