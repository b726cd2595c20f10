/-
  CONTRACTS AND PLAIN FACTS, several texts in one; each says in its own words what it proves.
-/
import Derived.Test.YtegaakgmfphcaaaGreatDoorPartQ
import Derived.Test.YtegaakgmfphcaaaGreatDoorPartL
import Derived.Test.YtegaakgmfphcaaaGreatDoorPartO
set_option linter.unusedSimpArgs false
set_option linter.unusedVariables false

/-
  CONTRACT of the model's IsRequest; nothing that was there before is changed.
-/
namespace Go.Proofs.YtegaakgmfphcaaaGreatDoor.Msg
open Go Go.RowKit
set_option linter.unusedVariables false
set_option maxRecDepth 1000000

/-- What is left to ask when all bytes are of their kinds. -/
def reqRest (sm sh st : ByteArray) (l : List Flds.Fld) : Bool := Tx.token sm.data.toList && (decide (1 ≤ sh.size ∧ sh.size ≤ 40) && (decide (1 ≤ st.size ∧ st.size ≤ 100) && (st.data.toList.head? == some 47 && (ownOk l && !Flds.has l hostName))))
theorem rest_of {sm sh st : ByteArray} {l : List Flds.Fld} (h1 : sm.data.toList.all nolow = true) (h2 : sh.data.toList.all hb = true) (h3 : st.data.toList.all tb = true) : reqOk sm.data.toList sh.data.toList st.data.toList l = reqRest sm sh st l := by
  unfold reqOk methOk hostOk targOk reqRest
  rw [h1, h2, h3, Tx.list_len, Tx.list_len]
  simp only [Bool.true_and, Bool.and_assoc]
theorem bad_m {m h t : List UInt8} {l : List Flds.Fld} (e : m.all nolow = false) : reqOk m h t l = false := by unfold reqOk methOk; rw [e]; simp
theorem bad_h {m h t : List UInt8} {l : List Flds.Fld} (e : h.all hb = false) : reqOk m h t l = false := by unfold reqOk hostOk; rw [e]; simp
theorem bad_t {m h t : List UInt8} {l : List Flds.Fld} (e : t.all tb = false) : reqOk m h t l = false := by unfold reqOk targOk; rw [e]; simp

end Go.Proofs.YtegaakgmfphcaaaGreatDoor.Msg

/-
  CONTRACTS of the program's and the model's KeyOf; nothing that was there before is changed.
-/
namespace Go.Proofs.YtegaakgmfphcaaaGreatDoor.Nt
open Go Go.RowKit
set_option linter.unusedVariables false
set_option maxRecDepth 1000000
set_option maxRecDepth 1000000

theorem ntar_len (l : List UInt8) : (ntar l).1.length ≤ 2 * l.length + 4 := by
  have h1 := cut_len 63 l
  have h2 := normp_len (Tx.cutAt 63 l).1
  have h3 := normp_len (Tx.cutAt 63 l).2.1
  have h4 := pathd_len (normp (Tx.cutAt 63 l).1).1
  have h5 := query_len (normp (Tx.cutAt 63 l).2.1).1
  unfold ntar
  split
  · simp only
    split
    · omega
    · simp only [List.length_append, List.length_cons, List.length_nil]; omega
  · simp
/-- The one name of what a request asks for. -/
def keyp (m h t : List UInt8) (l : List Flds.Fld) : List UInt8 × Bool := if (ntar t).2 && Msg.reqOk m h t l then (h ++ (ntar t).1, true) else ([], false)

set_option maxHeartbeats 2000000 in
theorem impl_key (m h t : List UInt8) (v : Value) (B : Nat) (l : List Flds.Fld) (w : World) (hh : Flds.Holds w B v l) (hB : B ≤ w.heap.size) (hl : Flds.total l ≤ 1048576) (hm : m.length ≤ 1048576) (hhl : h.length ≤ 1048576) (ht : t.length ≤ 1048576) (he : Par.Errs w) (hmx : Sh.MxL w) :
    Calls Tryz.prog 19 #[.agg #[.string ⟨m.toArray⟩, .string ⟨h.toArray⟩, .string ⟨t.toArray⟩, v]] w (PairEnd (keyp m h t l) w) := by
  have HB0 : Hid (Below w.heap.size w (w.alloc (.cells #[.string ⟨m.toArray⟩, .string ⟨h.toArray⟩, .string ⟨t.toArray⟩, v] 26))) := Lib.hid ((Below.refl _ _).alloc (Nat.le_refl _) _)
  have HC := Lib.hid (fun (W : World) (hb : Below w.heap.size w W) => impl_nt t W (by omega) (Par.errs_below he hb) (Sh.mxl_below hmx hb))
  have HV := Lib.hid (fun (W : World) (hb : Below w.heap.size w W) => Msg.impl_valid_req m h t v B l W (Flds.holds_below hh (hb.mono hB)) (Nat.le_trans hB hb.size) hl hm hhl ht)
  have HK := Lib.hid (fun w1 (hb : Below (w.alloc (.cells #[.string ⟨m.toArray⟩, .string ⟨h.toArray⟩, .string ⟨t.toArray⟩, v] 26)).heap.size (w.alloc (.cells #[.string ⟨m.toArray⟩, .string ⟨h.toArray⟩, .string ⟨t.toArray⟩, v] 26)) w1) => And.intro (And.intro ((Kept.one hb).1 0 _ rfl) (And.intro ((Kept.one hb).1 1 _ rfl) (And.intro ((Kept.one hb).1 2 _ rfl) ((Kept.one hb).1 3 _ rfl)))) (Kept.below_in hb))
  have HE : Hid (keyp m h t l = if (ntar t).2 && Msg.reqOk m h t l then (h ++ (ntar t).1, true) else ([], false)) := Lib.hid rfl
  have HLN := Nt.ntar_len t
  unfold PairEnd at HC ⊢
  unfold Msg.BoolEnd at HV
  generalize keyp m h t l = res at *
  generalize ntar t = np at *
  generalize Msg.reqOk m h t l = z at *
  obtain ⟨r1, r2⟩ := np
  simp only at HC HE HLN
  have HA := Tx.addtwo h r1 (by omega)
  generalize h ++ r1 = hr at *
  clear hl hm hh ht hhl he hmx
  cases r2
  case false =>
    have HF : Hid (res = ([], false)) := Lib.hid (by rw [HE.out]; rfl)
    clear HE
    go_enter Tryz.func19, Tryz.ntmps19
    go_wp2_with (fail)
    go_at_call 14
    refine (HC.out _ HB0.out).mono ?_
    rintro e w1 ⟨rfl, b1⟩
    obtain ⟨⟨c0, c1, c2, c3⟩, hb1⟩ := HK.out _ b1
    have HB1 := Lib.hid hb1
    clear b1 hb1
    go_wp2
    go_ret2
    exact ⟨by rw [HF.out]; rfl, HB1.out⟩
  cases z
  all_goals
    first | (have HF : Hid (res = ([], false)) := Lib.hid (by rw [HE.out]; rfl)) | (have HF : Hid (res = (hr, true)) := Lib.hid (by rw [HE.out]; rfl))
    clear HE
    go_enter Tryz.func19, Tryz.ntmps19
    go_wp2_with (fail)
    go_at_call 14
    refine (HC.out _ HB0.out).mono ?_
    rintro e w1 ⟨rfl, b1⟩
    obtain ⟨⟨c0, c1, c2, c3⟩, hb1⟩ := HK.out _ b1
    have HB1 := Lib.hid hb1
    have HS1 := Lib.hid b1
    clear b1 hb1
    go_wp2_with (fail)
    go_at_call 47
    refine (HV.out _ HB1.out).mono ?_
    rintro e w2 ⟨rfl, b2⟩
    obtain ⟨⟨d0, d1, d2, d3⟩, hb2⟩ := HK.out _ (Base.then_below HS1.out b2)
    have HB2 := Lib.hid hb2
    clear b2 hb2
    go_wp2
    go_ret2
    exact ⟨by rw [HF.out]; rfl, HB2.out⟩

end Go.Proofs.YtegaakgmfphcaaaGreatDoor.Nt

/-
  CONTRACTS of the program's and the model's IsNormalTarget; nothing that was there before is changed.
-/
namespace Go.Proofs.YtegaakgmfphcaaaGreatDoor.Nt
open Go Go.RowKit
set_option linter.unusedVariables false
set_option maxRecDepth 1000000
set_option maxRecDepth 1000000

/-- Whether the target stands in its one way. -/
def isnt (l : List UInt8) : Bool := (ntar l).2 && ((ntar l).1 == l)
set_option maxHeartbeats 2000000 in
theorem impl_isnt (l : List UInt8) (w : World) (hl : l.length ≤ 4194200) (he : Par.Errs w) (hm : Sh.MxL w) :
    Calls Tryz.prog 16 #[.string ⟨l.toArray⟩] w fun e w' => e = .returned (.bool (isnt l)) ∧ Below w.heap.size w w' := by
  have HC := Lib.hid (impl_nt l w hl he hm)
  have HE : Hid (isnt l = ((ntar l).2 && ((ntar l).1 == l))) := Lib.hid rfl
  unfold PairEnd at HC
  generalize isnt l = res at *
  generalize ntar l = np at *
  obtain ⟨r1, r2⟩ := np
  simp only at HC HE
  clear he hm hl
  cases r2
  case false =>
    have HF : Hid (res = false) := Lib.hid (by rw [HE.out]; rfl)
    clear HE
    go_enter Tryz.func16, Tryz.ntmps16
    go_wp2_with (fail)
    go_at_call 14
    refine HC.out.mono ?_
    rintro e w1 ⟨rfl, hb1⟩
    have HB1 := Lib.hid hb1
    clear hb1
    go_wp2
    go_ret
    exact ⟨by rw [HF.out]; first | rfl | (simp; done), HB1.out⟩
  have HF : Hid (res = (r1 == l)) := Lib.hid (by rw [HE.out]; rfl)
  clear HE
  go_enter Tryz.func16, Tryz.ntmps16
  go_wp2_with (fail)
  go_at_call 14
  refine HC.out.mono ?_
  rintro e w1 ⟨rfl, hb1⟩
  have HB1 := Lib.hid hb1
  clear hb1
  go_wp2
  go_ret
  exact ⟨by rw [HF.out]; first | rfl | (simp; done), HB1.out⟩
end Go.Proofs.YtegaakgmfphcaaaGreatDoor.Nt
