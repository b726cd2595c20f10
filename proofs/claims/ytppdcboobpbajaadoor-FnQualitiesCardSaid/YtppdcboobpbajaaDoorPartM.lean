/-
  CONTRACTS AND PLAIN FACTS, several texts in one; each says in its own words what it proves.
-/
import Derived.Test.YtppdcboobpbajaaDoorPartL
import Derived.Test.YtppdcboobpbajaaDoorPartK
import Derived.Test.YtppdcboobpbajaaDoorPartG
import Derived.Outline
import Derived.Test.YtppdcboobpbajaaDoorPartJ
import Derived.Test.YtppdcboobpbajaaDoorPartI
import Derived.LoopTactic
set_option linter.unusedSimpArgs false
set_option linter.unusedVariables false

/-
  CONTRACTS of the program's parseQuality and ParseQualities: the qualities of a text, in memory of their own; nothing that was there before is changed.
-/
namespace Go.Proofs.YtppdcboobpbajaaDoor.Qua
open Go Go.RowKit
set_option linter.unusedVariables false
set_option maxRecDepth 1000000
set_option maxRecDepth 1000000

theorem split59 (s : ByteArray) (w : World) (hs : s.size ≤ 4194304) (hm : Sh.MxL w) :
    Calls Tryd.prog 22 #[.string s, .string ⟨#[59]⟩] w fun e w' => e = .returned (.slice (some ⟨w.heap.size, 0, none⟩) (Spc.spl 59 s.data.toList).length (Spc.spl 59 s.data.toList).length) ∧ Strs.At w' w.heap.size 0 (Spc.spl 59 s.data.toList) ∧ Below w.heap.size w w' ∧ w.heap.size < w'.heap.size := by
  obtain ⟨hg, m, hc⟩ := hm
  have hl := Spc.split_len 59 s
  have ha := Lib.splitB_all ⟨#[59]⟩ (by decide) 0 _ s rfl
  rw [hl] at ha
  have h := Tryd.strings_Split s ⟨#[59]⟩ m w (by omega) hc (by decide)
  rw [← ha] at h
  refine h.mono ?_
  rintro e w' ⟨rfl, rfl⟩
  refine ⟨rfl, fun j hj => ?_, (Below.refl _ _).alloc (Nat.le_refl _) _, by simp⟩
  · rw [World.cell?_alloc_new]
    have hjl : j < (Lib.splitB ⟨#[59]⟩ 0 (Lib.countB s ⟨#[59]⟩) s).length := by rw [hl]; exact hj
    have hsp := Spc.split_spl 59 s
    have e1 : (Spc.spl 59 s.data.toList).getD j [] = ((Lib.splitB ⟨#[59]⟩ 0 (Lib.countB s ⟨#[59]⟩) s)[j]).data.toList := by
      rw [← hsp]; simp [List.getD, hjl]
    rw [e1]
    simp [Strs.sv, hjl]
theorem trim_i (a : List UInt8) (hl : a.length ≤ 1048576) (W : World) : Calls Tryd.prog 23 #[.string ⟨a.toArray⟩] W fun e w' => e = .returned (.string ⟨(Tx.trim a).toArray⟩) ∧ Below W.heap.size W w' := Tx.impl_trim ⟨a.toArray⟩ W (by simp [ByteArray.size]; omega)
def qval (o : Option T) : Value := match o with | some f => .tuple #[.agg #[.string ⟨f.1.toArray⟩, .int .i64 f.2], .bool true] | none => .tuple #[.agg #[.string ⟨#[]⟩, .int .i64 0], .bool false]
theorem qval_some {o : Option T} {f : T} (h : o = some f) : .tuple #[.agg #[.string ⟨f.1.toArray⟩, .int .i64 f.2], .bool true] = qval o := by rw [h]; rfl
theorem qval_none {o : Option T} (h : o = none) : .tuple #[.agg #[.string ⟨#[]⟩, .int .i64 0], .bool false] = qval o := by rw [h]; rfl
/-- The result's own cells are there behind what a call did. -/
theorem res_two {w w1 : World} {T : TypeId} {x y : Value} (hb : Below (w.alloc (.cells #[x, y] T)).heap.size (w.alloc (.cells #[x, y] T)) w1) :
    w1.cell? ⟨w.heap.size, 0, none⟩ = some x ∧ w1.cell? ⟨w.heap.size, 1, none⟩ = some y ∧ w1.frozen? ⟨w.heap.size, 0, none⟩ = false ∧ w1.frozen? ⟨w.heap.size, 1, none⟩ = false :=
  ⟨(Kept.one hb).1 0 _ rfl, (Kept.one hb).1 1 _ rfl, (Kept.one hb).2 0, (Kept.one hb).2 1⟩
theorem qel_eq {x : List UInt8} {P : List (List UInt8)} (h : Spc.spl 59 x = P) : qel x = if Tx.token (Tx.trim (P.getD 0 [])) = true ∧ P.length ≤ 2 then (if P.length = 2 then (qpar (P.getD 1 [])).map (fun n => (Tx.lower (Tx.trim (P.getD 0 [])), (n : Int))) else some (Tx.lower (Tx.trim (P.getD 0 [])), 1000)) else none := by rw [← h]; rfl


set_option maxHeartbeats 4000000 in
theorem impl_pq (l : List UInt8) (w : World) (hl : l.length ≤ 1048576) (he : Par.Errs w) (hm : Sh.MxL w) :
    Calls Tryd.prog 12 #[.string ⟨l.toArray⟩] w fun e w' => e = .returned (qval (qel l)) ∧ Below w.heap.size w w' := by
  have hba : Below w.heap.size w (w.alloc (.cells #[.string ⟨#[]⟩, .int .i64 0] 28)) := (Below.refl _ _).alloc (Nat.le_refl _) _
  have HBA := Lib.hid hba
  have HSP := Lib.hid (split59 ⟨l.toArray⟩ (w.alloc (.cells #[.string ⟨#[]⟩, .int .i64 0] 28)) (by simp [ByteArray.size]; omega) (Sh.mxl_below hm hba))
  have HER := Lib.hid (fun W (hb : Below w.heap.size w W) => Par.errs_below he hb)
  have hmem : ∀ x ∈ Spc.spl 59 l, x.length ≤ 1048576 := fun x hx => Nat.le_trans (Spc.spl_mem 59 l x hx) hl
  have hcl := Spc.spl_len 59 l
  have hne : 0 < (Spc.spl 59 l).length := List.length_pos_iff.2 (Spc.spl_ne 59 l)
  rw [show (⟨l.toArray⟩ : ByteArray).data.toList = l from rfl] at HSP
  obtain ⟨P, hP⟩ : ∃ P, Spc.spl 59 l = P := ⟨_, rfl⟩
  have HQ := Lib.hid (qel_eq hP)
  rw [hP] at HSP hmem hcl hne
  generalize qel l = r at *
  have hl0 : (P.getD 0 []).length ≤ 1048576 := hmem _ (Rec.getD_mem (z := []) hne)
  have HT := Lib.hid (trim_i (P.getD 0 []) hl0)
  have hlt : (Tx.trim (P.getD 0 [])).length ≤ 1048576 := Nat.le_trans (Tx.trim_short _) hl0
  have HK := Lib.hid (Dir.tok_i (Tx.trim (P.getD 0 [])) hlt)
  have HLW := Lib.hid (Dir.low_i (Tx.trim (P.getD 0 [])) hlt)
  have HPL : Hid (P.length ≤ 1048577) := Lib.hid (by omega)
  have hs1 : (w.alloc (.cells #[.string ⟨#[]⟩, .int .i64 0] 28)).heap.size = w.heap.size + 1 := by simp
  rw [hs1] at HSP
  clear hP hcl he hm hba hlt hl
  obtain ⟨p0, hp0⟩ : ∃ p0, P.getD 0 [] = p0 := ⟨_, rfl⟩
  rw [hp0] at HT HK HLW HQ
  generalize Tx.trim p0 = nm at *
  generalize hlw : Tx.lower nm = lw at *
  clear hl0 hlw
  have hpi : 0 < (P.length : Int) := by omega
  cases htk : Tx.token nm with
  | false =>
    have HF := Lib.hid (qval_none (HQ.out.trans (if_neg (fun h => by rw [htk] at h; exact Bool.noConfusion h.1))))
    rw [htk] at HK
    clear HQ HER HLW htk
    go_enter Tryd.func12, Tryd.ntmps12
    go_wp2_with (fail)
    go_at_call 22
    refine HSP.out.mono ?_
    rintro e w1 ⟨rfl, hat, b1, hgt⟩
    have HS : Hid (Below (w.alloc (.cells #[.string ⟨#[]⟩, .int .i64 0] 28)).heap.size (w.alloc (.cells #[.string ⟨#[]⟩, .int .i64 0] 28)) w1) := Lib.hid (by rw [hs1]; exact b1)
    have HAT := Lib.hid hat
    have HGT := Lib.hid hgt
    have c0 : w1.cell? ⟨w.heap.size + 1, 0, none⟩ = some (.string ⟨p0.toArray⟩) := by have h := hat 0 hne; rw [hp0] at h; exact h
    clear b1 hat hgt
    go_wp2_with (fail)
    go_at_call 23
    refine (HT.out _).mono ?_
    rintro e w2 ⟨rfl, b2⟩
    have HS := Lib.hid (HS.out.trans (b2.mono HS.out.size))
    have HAT := Lib.hid (Strs.at_below HAT.out b2 HGT.out)
    have HGT := Lib.hid (Nat.lt_of_lt_of_le HGT.out b2.size)
    clear b2 c0
    go_wp2_with (fail)
    go_at_call 7
    refine (HK.out _).mono ?_
    rintro e w3 ⟨rfl, rfl⟩
    obtain ⟨q1, q2, q3, q4⟩ := res_two HS.out
    have HBF := Lib.hid (HBA.out.trans (HS.out.mono HBA.out.size))
    go_wp2
    refine bodyPost_ret (v := .tuple #[.agg #[.string ⟨#[]⟩, .int .i64 0], .bool false]) (by simp [results, Tryd.results12, go_sem, q1, q2, q3, q4]) rfl ⟨congrArg Ending.returned HF.out, ?_⟩
    exact (HBF.out.setCell (Nat.le_refl _) _).setCell (Nat.le_refl _) _
  | true =>
    rw [htk] at HK
    by_cases h3 : 2 < (P.length : Int)
    · have HF := Lib.hid (qval_none (HQ.out.trans (if_neg (fun h => by have := h.2; omega))))
      clear HQ HER HLW htk
      go_enter Tryd.func12, Tryd.ntmps12
      go_wp2_with (fail)
      go_at_call 22
      refine HSP.out.mono ?_
      rintro e w1 ⟨rfl, hat, b1, hgt⟩
      have HS : Hid (Below (w.alloc (.cells #[.string ⟨#[]⟩, .int .i64 0] 28)).heap.size (w.alloc (.cells #[.string ⟨#[]⟩, .int .i64 0] 28)) w1) := Lib.hid (by rw [hs1]; exact b1)
      have HAT := Lib.hid hat
      have HGT := Lib.hid hgt
      have c0 : w1.cell? ⟨w.heap.size + 1, 0, none⟩ = some (.string ⟨p0.toArray⟩) := by have h := hat 0 hne; rw [hp0] at h; exact h
      clear b1 hat hgt
      go_wp2_with (fail)
      go_at_call 23
      refine (HT.out _).mono ?_
      rintro e w2 ⟨rfl, b2⟩
      have HS := Lib.hid (HS.out.trans (b2.mono HS.out.size))
      have HAT := Lib.hid (Strs.at_below HAT.out b2 HGT.out)
      have HGT := Lib.hid (Nat.lt_of_lt_of_le HGT.out b2.size)
      clear b2 c0
      go_wp2_with (fail)
      go_at_call 7
      refine (HK.out _).mono ?_
      rintro e w3 ⟨rfl, rfl⟩
      obtain ⟨q1, q2, q3, q4⟩ := res_two HS.out
      have HBF := Lib.hid (HBA.out.trans (HS.out.mono HBA.out.size))
      go_wp2
      refine bodyPost_ret (v := .tuple #[.agg #[.string ⟨#[]⟩, .int .i64 0], .bool false]) (by simp [results, Tryd.results12, go_sem, q1, q2, q3, q4]) rfl ⟨congrArg Ending.returned HF.out, ?_⟩
      exact (HBF.out.setCell (Nat.le_refl _) _).setCell (Nat.le_refl _) _
    by_cases h2 : (P.length : Int) = 2
    case neg =>
      have HF := Lib.hid (qval_some (HQ.out.trans ((if_pos ⟨htk, by omega⟩).trans (if_neg (by omega)))))
      have hb2 : ((P.length : Int) == 2) = false := by rw [beq_eq_false_iff_ne]; exact h2
      clear HQ HER htk
      go_enter Tryd.func12, Tryd.ntmps12
      go_wp2_with (fail)
      go_at_call 22
      refine HSP.out.mono ?_
      rintro e w1 ⟨rfl, hat, b1, hgt⟩
      have HS : Hid (Below (w.alloc (.cells #[.string ⟨#[]⟩, .int .i64 0] 28)).heap.size (w.alloc (.cells #[.string ⟨#[]⟩, .int .i64 0] 28)) w1) := Lib.hid (by rw [hs1]; exact b1)
      have HAT := Lib.hid hat
      have HGT := Lib.hid hgt
      have c0 : w1.cell? ⟨w.heap.size + 1, 0, none⟩ = some (.string ⟨p0.toArray⟩) := by have h := hat 0 hne; rw [hp0] at h; exact h
      clear b1 hat hgt
      go_wp2_with (fail)
      go_at_call 23
      refine (HT.out _).mono ?_
      rintro e w2 ⟨rfl, b2⟩
      have HS := Lib.hid (HS.out.trans (b2.mono HS.out.size))
      have HAT := Lib.hid (Strs.at_below HAT.out b2 HGT.out)
      have HGT := Lib.hid (Nat.lt_of_lt_of_le HGT.out b2.size)
      clear b2 c0
      go_wp2_with (fail)
      go_at_call 7
      refine (HK.out _).mono ?_
      rintro e w3 ⟨rfl, rfl⟩
      go_wp2_with (fail)
      go_at_call 25
      refine (HLW.out _).mono ?_
      rintro e w5 ⟨rfl, b5⟩
      have HS := Lib.hid (HS.out.trans (b5.mono HS.out.size))
      clear b5
      obtain ⟨q1, q2, q3, q4⟩ := res_two HS.out
      have HBF := Lib.hid (HBA.out.trans (HS.out.mono HBA.out.size))
      go_wp2
      refine bodyPost_ret (v := .tuple #[.agg #[.string ⟨lw.toArray⟩, .int .i64 1000], .bool true]) (by simp [results, Tryd.results12, go_sem, q1, q2, q3, q4]) rfl ⟨congrArg Ending.returned HF.out, ?_⟩
      exact (HBF.out.setCell (Nat.le_refl _) _).setCell (Nat.le_refl _) _
    have hone : 1 < P.length := by omega
    have hoi : 1 < (P.length : Int) := by omega
    have hl1 : (P.getD 1 []).length ≤ 1048576 := hmem _ (Rec.getD_mem (z := []) hone)
    have HPA := Lib.hid (fun W (hb : Below w.heap.size w W) => impl_param (P.getD 1 []) W hl1 (HER.out W hb))
    have HQ2 : Hid (r = (qpar (P.getD 1 [])).map (fun n => (lw, (n : Int)))) := Lib.hid (HQ.out.trans ((if_pos ⟨htk, by omega⟩).trans (if_pos (by omega))))
    obtain ⟨p1, hp1⟩ : ∃ p1, P.getD 1 [] = p1 := ⟨_, rfl⟩
    rw [hp1] at HPA HQ2
    have hb2 : ((P.length : Int) == 2) = true := by rw [h2]; rfl
    clear HQ hl1 htk HER
    cases hq : qpar p1 with
    | none =>
      have HF := Lib.hid (qval_none (HQ2.out.trans (by rw [hq]; rfl)))
      rw [hq, show wpair none = .tuple #[.int .i64 0, .bool false] from rfl] at HPA
      clear HQ2 hq HLW
      go_enter Tryd.func12, Tryd.ntmps12
      go_wp2_with (fail)
      go_at_call 22
      refine HSP.out.mono ?_
      rintro e w1 ⟨rfl, hat, b1, hgt⟩
      have HS : Hid (Below (w.alloc (.cells #[.string ⟨#[]⟩, .int .i64 0] 28)).heap.size (w.alloc (.cells #[.string ⟨#[]⟩, .int .i64 0] 28)) w1) := Lib.hid (by rw [hs1]; exact b1)
      have HAT := Lib.hid hat
      have HGT := Lib.hid hgt
      have c0 : w1.cell? ⟨w.heap.size + 1, 0, none⟩ = some (.string ⟨p0.toArray⟩) := by have h := hat 0 hne; rw [hp0] at h; exact h
      clear b1 hat hgt
      go_wp2_with (fail)
      go_at_call 23
      refine (HT.out _).mono ?_
      rintro e w2 ⟨rfl, b2⟩
      have HS := Lib.hid (HS.out.trans (b2.mono HS.out.size))
      have HAT := Lib.hid (Strs.at_below HAT.out b2 HGT.out)
      have HGT := Lib.hid (Nat.lt_of_lt_of_le HGT.out b2.size)
      clear b2 c0
      go_wp2_with (fail)
      go_at_call 7
      refine (HK.out _).mono ?_
      rintro e w3 ⟨rfl, rfl⟩
      have c1 : w2.cell? ⟨w.heap.size + 1, 1, none⟩ = some (.string ⟨p1.toArray⟩) := by have h := HAT.out 1 hone; rw [hp1] at h; exact h
      go_wp2_with (fail)
      go_at_call 24
      refine (HPA.out _ (HBA.out.trans (HS.out.mono HBA.out.size))).mono ?_
      rintro e w4 ⟨rfl, b4⟩
      have HS := Lib.hid (HS.out.trans (b4.mono HS.out.size))
      clear b4 c1
      obtain ⟨q1, q2, q3, q4⟩ := res_two HS.out
      have HBF := Lib.hid (HBA.out.trans (HS.out.mono HBA.out.size))
      go_wp2
      refine bodyPost_ret (v := .tuple #[.agg #[.string ⟨#[]⟩, .int .i64 0], .bool false]) (by simp [results, Tryd.results12, go_sem, q1, q2, q3, q4]) rfl ⟨congrArg Ending.returned HF.out, ?_⟩
      exact (HBF.out.setCell (Nat.le_refl _) _).setCell (Nat.le_refl _) _
    | some n =>
      have HF := Lib.hid (qval_some (f := (lw, (n : Int))) (HQ2.out.trans (by rw [hq]; rfl)))
      rw [hq, show wpair (some n) = .tuple #[.int .i64 (n : Int), .bool true] from rfl] at HPA
      clear HQ2 hq
      go_enter Tryd.func12, Tryd.ntmps12
      go_wp2_with (fail)
      go_at_call 22
      refine HSP.out.mono ?_
      rintro e w1 ⟨rfl, hat, b1, hgt⟩
      have HS : Hid (Below (w.alloc (.cells #[.string ⟨#[]⟩, .int .i64 0] 28)).heap.size (w.alloc (.cells #[.string ⟨#[]⟩, .int .i64 0] 28)) w1) := Lib.hid (by rw [hs1]; exact b1)
      have HAT := Lib.hid hat
      have HGT := Lib.hid hgt
      have c0 : w1.cell? ⟨w.heap.size + 1, 0, none⟩ = some (.string ⟨p0.toArray⟩) := by have h := hat 0 hne; rw [hp0] at h; exact h
      clear b1 hat hgt
      go_wp2_with (fail)
      go_at_call 23
      refine (HT.out _).mono ?_
      rintro e w2 ⟨rfl, b2⟩
      have HS := Lib.hid (HS.out.trans (b2.mono HS.out.size))
      have HAT := Lib.hid (Strs.at_below HAT.out b2 HGT.out)
      have HGT := Lib.hid (Nat.lt_of_lt_of_le HGT.out b2.size)
      clear b2 c0
      go_wp2_with (fail)
      go_at_call 7
      refine (HK.out _).mono ?_
      rintro e w3 ⟨rfl, rfl⟩
      have c1 : w2.cell? ⟨w.heap.size + 1, 1, none⟩ = some (.string ⟨p1.toArray⟩) := by have h := HAT.out 1 hone; rw [hp1] at h; exact h
      go_wp2_with (fail)
      go_at_call 24
      refine (HPA.out _ (HBA.out.trans (HS.out.mono HBA.out.size))).mono ?_
      rintro e w4 ⟨rfl, b4⟩
      have HS := Lib.hid (HS.out.trans (b4.mono HS.out.size))
      clear b4 c1
      go_wp2_with (fail)
      go_at_call 25
      refine (HLW.out _).mono ?_
      rintro e w5 ⟨rfl, b5⟩
      have HS := Lib.hid (HS.out.trans (b5.mono HS.out.size))
      clear b5
      obtain ⟨q1, q2, q3, q4⟩ := res_two HS.out
      have HBF := Lib.hid (HBA.out.trans (HS.out.mono HBA.out.size))
      go_wp2
      refine bodyPost_ret (v := .tuple #[.agg #[.string ⟨lw.toArray⟩, .int .i64 (n : Int)], .bool true]) (by simp [results, Tryd.results12, go_sem, q1, q2, q3, q4]) rfl ⟨congrArg Ending.returned HF.out, ?_⟩
      exact (HBF.out.setCell (Nat.le_refl _) _).setCell (Nat.le_refl _) _


def Parsed (s : List UInt8) (w : World) (e : Ending) (w' : World) : Prop := ∃ v, e = .returned v ∧ Own w' w.heap.size v (pqs s) ∧ Below w.heap.size w w'
theorem ret_parsed {s : List UInt8} {w wr : World} {u : Value} {l : List T} (he : l = pqs s) (ho : Own wr w.heap.size u l) (hb : Below w.heap.size w wr) : Parsed s w (.returned u) wr := by subst he; exact ⟨u, rfl, ho, hb⟩

set_option maxHeartbeats 4000000 in
theorem impl_pqs (l : List UInt8) (w : World) (hl : l.length ≤ 1048576) (he : Par.Errs w) (hm : Sh.MxL w) :
    Calls Tryd.prog 5 #[.string ⟨l.toArray⟩] w (Parsed l w) := by
  obtain ⟨i0, hi, hz0, hz1, hz2⟩ := info_parts info_r
  have HS := Lib.hid (fun W => Tx.impl_split ⟨l.toArray⟩ W (Nat.le_trans hl (by decide)))
  have HEL := Lib.hid (Tx.split_elem l)
  have HCN := Lib.hid (Tx.split_count l)
  have HEM := Lib.hid (fun W (hb : Below w.heap.size w W) => And.intro (Par.errs_below he hb) (Sh.mxl_below hm hb))
  have HO := Lib.hid (own_lit_nil w)
  have HDP : Hid (pqs l = quals (Tx.split l)) := Lib.hid rfl
  clear he hm
  go_enter Tryd.func5, Tryd.ntmps5
  go_wp2_with (fail)
  go_at_call 11
  refine (HS.out _).mono ?_
  rintro e w1 ⟨vx, rfl, ox, hb1⟩
  have HOX : Hid (w1.ownsRow w.heap.size 9 1 vx (Tx.split l).length (Strs.svs (Tx.split l))) := Lib.hid (Rec.own_mono ox (by simp))
  have HO := Lib.hid (Rec.row_below HO.out hb1)
  have HB := Lib.hid (((Below.refl w.heap.size w).alloc (Nat.le_refl _) (.cells #[] 28)).trans (hb1.mono (by simp)))
  clear ox hb1 HS
  generalize Tx.split l = xs at *
  obtain ⟨ax, cx, rfl, hax⟩ := Rec.shape_at HOX.out
  have HAX := Lib.hid hax
  have hxl : xs.length ≤ 1048577 := by have := HCN.out; omega
  clear hax
  go_wp2
  go_loopw [3, 12] (fun u i wr => ∃ k : Nat, k ≤ xs.length ∧ i = .int .i64 (k : Int) ∧ wr.ownsRow w.heap.size 28 2 u (quals (xs.take k)).length (fcs (quals (xs.take k))) ∧ wr.ownsRow w.heap.size 9 1 (.slice ax xs.length cx) xs.length (Strs.svs xs) ∧ Below w.heap.size w wr) (fun _ i _ => xs.length - (intOf i).toNat)
  case atStart => exact ⟨0, Nat.zero_le _, rfl, HO.out, HOX.out, HB.out⟩
  case round =>
    clear HO HOX HB
    obtain ⟨k, hk, rfl, hown, hox, hb⟩ := hrel
    have HVR := Lib.hid (HEM.out _ hb)
    have HB := Lib.hid hb
    have HOX := Lib.hid hox
    have HO := Lib.hid hown
    clear hown hox hb
    by_cases hlt : k < xs.length
    · obtain ⟨gx, rfl⟩ := HAX.out (by omega)
      have c0 := Strs.own_cell HOX.out hlt
      have HXL : Hid ((xs.getD k []).length ≤ 1048576) := Lib.hid (Nat.le_trans (HEL.out _ (Rec.getD_mem (z := []) hlt)) hl)
      have HDL : Hid ((quals (xs.take k)).length ≤ 1048577) := Lib.hid (by have h1 := quals_len (xs.take k); rw [List.length_take] at h1; omega)
      unfold Strs.sv at c0
      have HR : Hid (∀ d, qel (xs.getD k []) = some d → quals (xs.take (k + 1)) = quals (xs.take k) ++ [d]) := Lib.hid (fun d hd => quals_yes hlt hd)
      have HN : Hid (qel (xs.getD k []) = none → quals (xs.take (k + 1)) = quals (xs.take k)) := Lib.hid (fun hd => quals_no hlt hd)
      generalize xs.getD k [] = x at c0 HXL HR HN
      have HP := Lib.hid (impl_pq x wr HXL.out HVR.out.1 HVR.out.2)
      cases hd : qel x with
      | none =>
        have HM := Lib.hid (HN.out hd)
        rw [hd, show qval none = .tuple #[.agg #[.string ⟨#[]⟩, .int .i64 0], .bool false] from rfl] at HP
        clear hd HR HN
        go_wp2_with (fail)
        go_at_call 12
        refine HP.out.mono ?_
        rintro e w2 ⟨rfl, hb2⟩
        have HO := Lib.hid (row_below HO.out hb2)
        have HOX := Lib.hid (Rec.row_below HOX.out hb2)
        have HB := Lib.hid (Base.then_below HB.out hb2)
        clear hb2
        have HA : Hid (∀ a, Below w2.heap.size w2 (w2.alloc (.cells a 28))) := Lib.hid (fun a => (Below.refl _ _).alloc (Nat.le_refl _) _)
        go_wp2
        go_roundw
        case rel => exact ⟨k + 1, by omega, by go_num, by rw [HM.out]; exact row_below HO.out (HA.out _), Rec.row_below HOX.out (HA.out _), Base.then_below HB.out (HA.out _)⟩
        case measure => simp [intOf]; omega
      | some d =>
        have HM := Lib.hid (HR.out d hd)
        obtain ⟨x0, y0⟩ := d
        rw [hd, show qval (some (x0, y0)) = .tuple #[.agg #[.string ⟨x0.toArray⟩, .int .i64 y0], .bool true] from rfl] at HP
        clear hd HR HN
        go_wp2_with (fail)
        go_at_call 12
        refine HP.out.mono ?_
        rintro e w2 ⟨rfl, hb2⟩
        have HO := Lib.hid (row_below HO.out hb2)
        have HOX := Lib.hid (Rec.row_below HOX.out hb2)
        have HB := Lib.hid (Base.then_below HB.out hb2)
        clear hb2 HP
        generalize quals (xs.take k) = ds at HO HM HDL
        have HA : Hid (Below w2.heap.size w2 (w2.alloc (.cells #[.string ⟨x0.toArray⟩, .int .i64 y0] 28))) := Lib.hid ((Below.refl _ _).alloc (Nat.le_refl _) _)
        have hown := row_below HO.out HA.out
        have HOX := Lib.hid (Rec.row_below HOX.out HA.out)
        have HB := Lib.hid (Base.then_below HB.out HA.out)
        have HNE := Lib.hid (Rec.row_apart HOX.out hown (by decide))
        have hL := fcs_len ds
        have HNW := Lib.hid (Rec.news (w2.alloc (.cells #[.string ⟨x0.toArray⟩, .int .i64 y0] 28)) [.string ⟨x0.toArray⟩, .int .i64 y0] 28)
        go_wp2_with (at_builtin; refine wpList_append_own _ rfl (.tmp 22) (.tmp 24) 24 rfl w.heap.size 28 i0 (.agg #[.string ⟨#[]⟩, .int .i64 0]) 2 24 Tryd.underlying24 hi hz0 hz1 hz2 rfl (by decide) _ _ _ rfl (hown.alloc _) ⟨w2.heap.size + 1, 0, none⟩ 1 1 [.string ⟨x0.toArray⟩, .int .i64 y0] rfl rfl (by have h := HNW.out; (try rw [World.size_alloc] at h); exact h) (cs_one (x0, y0)) (by have := HDL.out; unfold maxLen; omega) (by have := HDL.out; omega) (by have := HB.out.size; simp at this ⊢; omega) ?_; intro v1 wa hown1 hg1 _)
        have R := Lib.hid (push_own (f := (x0, y0)) hown HB.out (Nat.le_refl _) hown1 hg1)
        have HA2 := Lib.hid ((Below.refl (w2.alloc (.cells #[.string ⟨x0.toArray⟩, .int .i64 y0] 28)).heap.size (w2.alloc (.cells #[.string ⟨x0.toArray⟩, .int .i64 y0] 28))).alloc (Nat.le_refl _) (.cells #[.string ⟨x0.toArray⟩, .int .i64 y0] 28))
        have ROX := Lib.hid (Rec.row_grown (Rec.row_below HOX.out HA2.out) hg1 HNE.out)
        clear hown hown1 hg1
        go_wp2
        go_roundw
        case rel => exact ⟨k + 1, by omega, by go_num, by rw [HM.out]; exact R.out.1, ROX.out, R.out.2⟩
        case measure => simp [intOf]; omega
    · have HE : Hid (quals (xs.take k) = pqs l) := Lib.hid (by rw [HDP.out, List.take_of_length_le (by omega)])
      go_wp2
      go_ret
      exact ret_parsed HE.out HO.out HB.out
end Go.Proofs.YtppdcboobpbajaaDoor.Qua

/-
  CONTRACT of the model's LowerText: at every text it returns it with the letters A to Z as a to z; nothing that was there before is changed.
-/
namespace Go.Proofs.YtppdcboobpbajaaDoor.Tx
open Go Go.RowKit Bys
set_option linter.unusedVariables false
set_option maxRecDepth 1000000

end Go.Proofs.YtppdcboobpbajaaDoor.Tx

/-
  CONTRACT of the model's ParseQualities: the qualities of a text, in memory of their own; nothing that was there before is changed.
-/
namespace Go.Proofs.YtppdcboobpbajaaDoor.Qua
open Go Go.RowKit
set_option linter.unusedVariables false
set_option maxRecDepth 1000000
set_option maxRecDepth 1000000

theorem low_len (a : List UInt8) : (Tx.lower a).length = a.length := by unfold Tx.lower; simp
end Go.Proofs.YtppdcboobpbajaaDoor.Qua
