/-
  CONTRACTS AND PLAIN FACTS, several texts in one; each says in its own words what it proves.
-/
import Derived.Test.YtegaakgmfphcaaaGreatDoorPartO
import Derived.Test.YtegaakgmfphcaaaGreatDoorPartG
import Derived.LoopTactic
import Derived.Test.YtegaakgmfphcaaaGreatDoorPartB
import Derived.Test.YtegaakgmfphcaaaGreatDoorPartA
import Derived.Test.YtegaakgmfphcaaaGreatDoorPartF
import Derived.Outline
import Derived.Test.YtegaakgmfphcaaaGreatDoorPartC
set_option linter.unusedSimpArgs false
set_option linter.unusedVariables false

/-
  CONTRACT of the model's LowerText: at every text it returns it with the letters A to Z as a to z; nothing that was there before is changed.
-/
namespace Go.Proofs.YtegaakgmfphcaaaGreatDoor.Tx
open Go Go.RowKit Bys
set_option linter.unusedVariables false
set_option maxRecDepth 1000000

end Go.Proofs.YtegaakgmfphcaaaGreatDoor.Tx

/-
  CONTRACTS of what is a field's name (the model's l5Name, the program's isFieldName): a token without letters in upper case.
-/
namespace Go.Proofs.YtegaakgmfphcaaaGreatDoor.Tx
open Go Go.RowKit
set_option linter.unusedVariables false
set_option maxRecDepth 1000000

def nameOk (l : List UInt8) : Bool := token l && (lower l == l)

theorem impl_name (l : List UInt8) (w : World) (hs : l.length ≤ 1048576) :
    Calls Tryz.prog 128 #[.string ⟨l.toArray⟩] w fun e w' => e = .returned (.bool (nameOk l)) ∧ Below w.heap.size w w' := by
  have hsz : (⟨l.toArray⟩ : ByteArray).size ≤ 9223372036854775806 := by simp [ByteArray.size]; omega
  have c1 := impl_token ⟨l.toArray⟩ w hsz
  have c2 := impl_lower ⟨l.toArray⟩ w hsz
  have C1 : Hid (Calls Tryz.prog 76 #[.string ⟨l.toArray⟩] w fun e w' => e = .returned (.bool (token l)) ∧ w = w') := Lib.hid c1
  have C2 : Hid (Calls Tryz.prog 27 #[.string ⟨l.toArray⟩] w fun e w' => e = .returned (.string ⟨(lower l).toArray⟩) ∧ Below w.heap.size w w') := Lib.hid c2
  clear c1 c2 hsz
  unfold nameOk
  generalize token l = t at C1 ⊢
  generalize lower l = m at C2 ⊢
  cases t
  · go_enter Tryz.func128, Tryz.ntmps128
    go_wp2_with (go_at_call 76; refine C1.out.mono ?_; rintro e w' ⟨rfl, rfl⟩)
    go_ret
    exact ⟨rfl, Below.refl _ _⟩
  · by_cases e : m = l
    · subst e
      go_enter Tryz.func128, Tryz.ntmps128
      go_wp2_with (first
        | (go_at_call 76; refine C1.out.mono ?_; rintro e w' ⟨rfl, rfl⟩)
        | (go_at_call 27; refine C2.out.mono ?_; rintro e w2 ⟨rfl, hb⟩))
      go_ret
      exact ⟨by simp, hb⟩
    · have hq : (m == l) = false := by simpa using e
      go_enter Tryz.func128, Tryz.ntmps128
      go_wp2_with (first
        | (go_at_call 76; refine C1.out.mono ?_; rintro e w' ⟨rfl, rfl⟩)
        | (go_at_call 27; refine C2.out.mono ?_; rintro e w2 ⟨rfl, hb⟩))
      go_ret
      exact ⟨by rw [hq]; rfl, hb⟩
end Go.Proofs.YtegaakgmfphcaaaGreatDoor.Tx

/-
  CONTRACTS of both sides' TrimText: at every text each returns it without the blanks at its beginning and its end; nothing that was there before is changed.
-/
namespace Go.Proofs.YtegaakgmfphcaaaGreatDoor.Tx
open Go Go.RowKit
set_option linter.unusedVariables false
set_option maxRecDepth 1000000

theorem impl_trim (s : ByteArray) (w : World) (hs : s.size ≤ 9223372036854775807) :
    Calls Tryz.prog 72 #[.string s] w fun e w' => e = .returned (.string ⟨(trim s.data.toList).toArray⟩) ∧ Below w.heap.size w w' := by
  have hcon := Tryz.strings_Trim_laid s ⟨#[32, 9]⟩ w hs (by decide) (ascii_of_all (by decide))
  change Calls Tryz.prog 88 _ _ (fun e w' => e = .returned (.string ⟨(Lib.trimS s.data.toList [32, 9]).toArray⟩) ∧ Below w.heap.size w w') at hcon
  rw [trim_set] at hcon
  generalize (⟨(trim s.data.toList).toArray⟩ : ByteArray) = r at hcon ⊢
  go_enter Tryz.func72, Tryz.ntmps72
  go_wp2_with (go_at_call 88; refine hcon.mono ?_; rintro e w' ⟨rfl, hB⟩)
  go_ret
  exact ⟨rfl, hB⟩

def slen : Value → Nat
  | .string s => s.size
  | _ => 0
theorem ret_str {a b : List UInt8} (h : a = b) : Ending.returned (.string ⟨a.toArray⟩) = .returned (.string ⟨b.toArray⟩) := by rw [h]
theorem empty_eq {x : ByteArray} (h : x.size = 0) : x.data.toList = [] := List.eq_nil_of_length_eq_zero (by rw [Array.length_toList]; exact h)
theorem ret_trim {x : ByteArray} {a : List UInt8} (h : [] = a) (hx : x.data.toList = []) : Ending.returned (.string x) = .returned (.string ⟨a.toArray⟩) := by
  subst h
  have : x = ⟨#[]⟩ := by
    have : x.data = #[] := by simpa using hx
    cases x; simp_all
  rw [this]
theorem ret_bytes {x : ByteArray} {a : List UInt8} (h : x.data.toList = a) : Ending.returned (.string x) = .returned (.string ⟨a.toArray⟩) := by subst h; simp
theorem cut_front {x : ByteArray} {n : Nat} (h : n ≤ x.size) : (x.extract 0 n).data.toList = x.data.toList.take n := by simp
theorem cut_size {x : ByteArray} {n : Nat} (h : n ≤ x.size) : (x.extract 0 n).size = n := by simp; omega
theorem cut_one (c : UInt8) (r : List UInt8) : Value.string ((⟨(c :: r).toArray⟩ : ByteArray).extract 1 (r.length + 1)) = .string ⟨r.toArray⟩ := by
  congr 1
  have : ((⟨(c :: r).toArray⟩ : ByteArray).extract 1 (r.length + 1)).data = r.toArray := by simp
  exact ByteArray.ext this
theorem last_split {x : ByteArray} {n : Nat} (hn : x.size = n + 1) (h : n < x.size) : x.data.toList = x.data.toList.take n ++ [x[n]] := by
  have e : x.data.toList.take (n + 1) = x.data.toList := List.take_of_length_le (by rw [Array.length_toList]; have : x.data.size = x.size := rfl; omega)
  have s := List.take_succ_eq_append_getElem (l := x.data.toList) (i := n) (by rw [Array.length_toList]; exact h)
  rw [e] at s
  exact s
theorem last_no {x : ByteArray} {n : Nat} (hn : x.size = n + 1) (h : n < x.size) (hb : blk x[n] = false) : trimr x.data.toList = x.data.toList := by
  rw [last_split hn h]; exact trimr_snoc_no hb
theorem last_yes {x : ByteArray} {n : Nat} (hn : x.size = n + 1) (h : n < x.size) (hb : blk x[n] = true) : trimr x.data.toList = trimr (x.data.toList.take n) := by
  conv => lhs; rw [last_split hn h]
  exact trimr_snoc_blk hb

end Go.Proofs.YtegaakgmfphcaaaGreatDoor.Tx

/-
  CONTRACTS of what is a field's value (the model's l5Value, the program's isFieldValue): at most 200 bytes, each of them a tab or one of 32 to 126, without blanks at its ends.
-/
namespace Go.Proofs.YtegaakgmfphcaaaGreatDoor.Tx
open Go Go.RowKit
set_option linter.unusedVariables false
set_option maxRecDepth 1000000

def okb (c : UInt8) : Bool := (decide (32 ≤ c.toNat) && decide (c.toNat ≤ 126)) || (c == 9)
def valOk (l : List UInt8) : Bool := l.all okb && (decide (l.length ≤ 200) && (trim l == l))
theorem okb_no {c : UInt8} (h : okb c = false) : ((c.toNat : Int) < 32 ∨ 126 < (c.toNat : Int)) ∧ (c.toNat : Int) ≠ 9 := by
  unfold okb at h
  rw [Bool.or_eq_false_iff] at h
  obtain ⟨h1, h2⟩ := h
  constructor
  · by_cases a : 32 ≤ c.toNat
    · right
      by_cases b : c.toNat ≤ 126
      · simp [a, b] at h1
      · omega
    · left; omega
  · intro e
    have : c = 9 := UInt8.toNat_inj.1 (by show c.toNat = 9; omega)
    rw [this] at h2; simp at h2
theorem okb_yes {c : UInt8} (h : okb c = true) : (32 ≤ (c.toNat : Int) ∧ (c.toNat : Int) ≤ 126) ∨ (¬ (32 ≤ (c.toNat : Int) ∧ (c.toNat : Int) ≤ 126) ∧ c = 9) := by
  unfold okb at h
  rw [Bool.or_eq_true] at h
  rcases h with h | h
  · rw [Bool.and_eq_true] at h
    have h1 := of_decide_eq_true h.1
    have h2 := of_decide_eq_true h.2
    left; omega
  · have e : c = 9 := by simpa using h
    subst e; right; exact ⟨by decide, rfl⟩
theorem okb_more {s : ByteArray} {k : Nat} (h : k < s.size) (ha : (s.data.toList.take k).all okb = true) (hc : okb s[k] = true) : (s.data.toList.take (k + 1)).all okb = true := by
  rw [take_snoc s k h, List.all_append, ha, List.all_cons, hc]; rfl
theorem val_bad {s : ByteArray} {k : Nat} (h : k < s.size) (hc : okb s[k] = false) : valOk s.data.toList = false := by
  unfold valOk
  have : s.data.toList.all okb = false := by
    rw [Bool.eq_false_iff]
    intro ha
    have hm : s[k] ∈ s.data.toList := by
      rw [← List.take_append_drop k s.data.toList, drop_cons s k h]; simp
    rw [List.all_eq_true] at ha
    have := ha _ hm
    rw [hc] at this; cases this
  rw [this, Bool.false_and]
theorem val_all {s : ByteArray} {k : Nat} (h : k = s.size) (ha : (s.data.toList.take k).all okb = true) : valOk s.data.toList = (decide (s.size ≤ 200) && (trim s.data.toList == s.data.toList)) := by
  have e : s.data.toList.take k = s.data.toList := List.take_of_length_le (by rw [list_len]; omega)
  rw [e] at ha
  unfold valOk
  rw [ha, Bool.true_and, list_len]

set_option maxHeartbeats 1000000 in
theorem impl_val (l : List UInt8) (w : World) (hs : l.length ≤ 1048576) :
    Calls Tryz.prog 129 #[.string ⟨l.toArray⟩] w fun e w' => e = .returned (.bool (valOk l)) ∧ Below w.heap.size w w' := by
  have hsz : (⟨l.toArray⟩ : ByteArray).size = l.length := by simp [ByteArray.size]
  have CT : Hid (Calls Tryz.prog 72 #[.string ⟨l.toArray⟩] w fun e w' => e = .returned (.string ⟨(trim l).toArray⟩) ∧ Below w.heap.size w w') := Lib.hid (impl_trim ⟨l.toArray⟩ w (by rw [hsz]; omega))
  have HV : Hid (valOk l = (l.all okb && (decide (l.length ≤ 200) && (trim l == l)))) := Lib.hid rfl
  generalize trim l = m at CT HV
  by_cases h2 : l.length ≤ 200
  · by_cases e : m = l
    · subst e
      have HV2 : Hid (valOk m = m.all okb) := Lib.hid (by rw [HV.out]; simp [h2])
      clear HV
      obtain ⟨s, hse⟩ : ∃ s : ByteArray, s = ⟨m.toArray⟩ := ⟨_, rfl⟩
      have HM : Hid (s.data.toList = m) := Lib.hid (by rw [hse])
      have hs2 : s.size ≤ 200 := by rw [hse, hsz]; exact h2
      rw [← hse] at CT ⊢
      clear hse hsz hs h2
      go_enter Tryz.func129, Tryz.ntmps129
      go_wp2_with (fail)
      go_at_call 72
      refine CT.out.mono ?_
      rintro e w' ⟨rfl, hb⟩
      have HB := Lib.hid hb
      clear hb CT
      go_wp2
      go_loop [15] (fun i => ∃ k : Nat, k ≤ s.size ∧ i = .int .i64 k ∧ (s.data.toList.take k).all okb = true) (fun i => s.size - (intOf i).toNat)
      case atStart => exact ⟨0, Nat.zero_le _, rfl, rfl⟩
      case round =>
        obtain ⟨k, hk, rfl, ha⟩ := hrel
        have HA := Lib.hid ha
        clear ha
        by_cases hlt : k < s.size
        · have hb255 : (s[k].toNat : Int) ≤ 255 := by have := s[k].toNat_lt; omega
          rcases hc : okb s[k] with _ | _
          · have HT : Hid (false = valOk m) := Lib.hid (by rw [HV2.out, ← HM.out]; symm; rw [Bool.eq_false_iff]; intro ha; have hm : s[k] ∈ s.data.toList := by (rw [← List.take_append_drop k s.data.toList, drop_cons s k hlt]; simp)
                                                           rw [List.all_eq_true] at ha; have := ha _ hm; rw [hc] at this; cases this)
            obtain ⟨q1, q2⟩ := okb_no hc
            clear hc
            rcases q1 with q1 | q1
            · go_wp2
              go_ret
              exact ⟨ret_bool HT.out, HB.out⟩
            · have q3 : ¬ (s[k].toNat : Int) < 32 := by omega
              go_wp2
              go_ret
              exact ⟨ret_bool HT.out, HB.out⟩
          · have HT := Lib.hid (okb_more hlt HA.out hc)
            rcases okb_yes hc with ⟨q1, q2⟩ | ⟨q1, q2⟩
            · have q3 : ¬ (s[k].toNat : Int) < 32 := by omega
              have q4 : ¬ 126 < (s[k].toNat : Int) := by omega
              clear hc
              go_wp2
              go_round
              case rel => exact ⟨k + 1, by omega, by go_num, HT.out⟩
              case measure => simp [intOf]; omega
            · clear hc q1
              go_wp2
              go_round
              case rel => exact ⟨k + 1, by omega, by go_num, HT.out⟩
              case measure => simp [intOf]; omega
        · have HT : Hid (true = valOk m) := Lib.hid (by have h := HA.out; rw [List.take_of_length_le (by rw [list_len]; omega), HM.out] at h; rw [HV2.out, h])
          go_wp2
          go_ret
          exact ⟨ret_bool HT.out, HB.out⟩
    · have hq : (m == l) = false := by simpa using e
      have HR : Hid (false = valOk l) := Lib.hid (by rw [HV.out, hq, Bool.and_false, Bool.and_false])
      clear HV
      go_enter Tryz.func129, Tryz.ntmps129
      go_wp2_with (fail)
      go_at_call 72
      refine CT.out.mono ?_
      rintro e w' ⟨rfl, hb⟩
      go_wp2
      go_ret
      exact ⟨ret_bool HR.out, hb⟩
  · have HR : Hid (false = valOk l) := Lib.hid (by rw [HV.out]; simp [h2])
    clear HV CT
    go_enter Tryz.func129, Tryz.ntmps129
    go_wp2
    go_ret
    exact ⟨ret_bool HR.out, Below.refl _ _⟩
end Go.Proofs.YtegaakgmfphcaaaGreatDoor.Tx

/-
  CONTRACTS of AreFields, the model's and the program's (by slices.ContainsFunc): at most 24 fields, each with a proper name and value; nothing that was there before is changed.
-/
namespace Go.Proofs.YtegaakgmfphcaaaGreatDoor.Flds
open Go Go.RowKit
set_option linter.unusedVariables false
set_option maxRecDepth 1000000

def fldOk (f : Fld) : Bool := Tx.nameOk f.1 && Tx.valOk f.2
def fldsOk (l : List Fld) : Bool := l.all fldOk && decide (l.length ≤ 24)
theorem size_of {l : List Fld} {k : Nat} (h : k < l.length) : (l.getD k nofld).1.length ≤ total l ∧ (l.getD k nofld).2.length ≤ total l := by
  have h1 := pre_more h
  have h2 : pre l (k + 1) ≤ total l := by
    unfold pre total
    conv => rhs; rw [← List.take_append_drop (k + 1) l]
    rw [List.map_append, List.sum_append]; omega
  omega
theorem all_more {l : List Fld} {k : Nat} (h : k < l.length) : (l.take (k + 1)).all fldOk = ((l.take k).all fldOk && fldOk (l.getD k nofld)) := by
  rw [List.take_succ_eq_append_getElem h, List.all_append, show l.getD k nofld = l[k] by simp [List.getD, h]]; simp
theorem all_bad {l : List Fld} {k : Nat} (h : k < l.length) (e : fldOk (l.getD k nofld) = false) : l.all fldOk = false := by
  rw [Bool.eq_false_iff]
  intro ha
  rw [List.all_eq_true] at ha
  have := ha l[k] (List.getElem_mem _)
  rw [show l.getD k nofld = l[k] by simp [List.getD, h]] at e
  rw [e] at this; cases this
theorem ret_b {a b : Bool} (h : a = b) : Ending.returned (.bool a) = .returned (.bool b) := by rw [h]
theorem shape_any {w : World} {B : Nat} {v : Value} {l : List Fld} (h : Holds w B v l) : ∃ a cap, v = .slice a l.length cap ∧ (0 < l.length → ∃ b off, a = some ⟨b, off, none⟩ ∧ b < B ∧ At w b off l) := by
  rcases h with ⟨rfl, a, cap, rfl⟩ | ⟨h0, b, off, cap, rfl, hb, _, hc⟩
  · exact ⟨a, cap, rfl, fun h => by simp at h⟩
  · exact ⟨_, cap, rfl, fun _ => ⟨b, off, rfl, hb, hc⟩⟩

def AreEnd (l : List Fld) (w : World) (e : Ending) (w' : World) : Prop := e = .returned (.bool (fldsOk l)) ∧ Below w.heap.size w w'

/-! The program's. -/
theorem are_closure (x y : List UInt8) (w : World) (h1 : x.length ≤ 1048576) (h2 : y.length ≤ 1048576) :
    Calls Tryz.prog 127 #[.agg #[.string ⟨x.toArray⟩, .string ⟨y.toArray⟩]] w fun e w' => e = .returned (.bool (!fldOk (x, y))) ∧ Below w.heap.size w w' := by
  have HN := Lib.hid (Tx.impl_name x (w.alloc (.cells #[.string ⟨x.toArray⟩, .string ⟨y.toArray⟩] 39)) h1)
  have HV : Hid (∀ wz : World, Calls Tryz.prog 129 #[.string ⟨y.toArray⟩] wz fun e w' => e = .returned (.bool (Tx.valOk y)) ∧ Below wz.heap.size wz w') := Lib.hid (fun wz => Tx.impl_val y wz h2)
  have hba : Below w.heap.size w (w.alloc (.cells #[.string ⟨x.toArray⟩, .string ⟨y.toArray⟩] 39)) := (Below.refl _ _).alloc (Nat.le_refl _) _
  have n2 : (w.alloc (.cells #[.string ⟨x.toArray⟩, .string ⟨y.toArray⟩] 39)).cell? ⟨w.heap.size, 1, none⟩ = some (.string ⟨y.toArray⟩) := by rw [World.cell?_alloc_new]; rfl
  have HA := Lib.hid (And.intro hba n2)
  clear hba n2
  unfold fldOk
  simp only
  generalize Tx.nameOk x = p at HN ⊢
  generalize Tx.valOk y = q at HV ⊢
  go_enter Tryz.func127, Tryz.ntmps127
  go_wp2_with (fail)
  go_at_call 128
  refine HN.out.mono ?_
  rintro e w1 ⟨rfl, hb1⟩
  have d2 : w1.cell? ⟨w.heap.size, 1, none⟩ = some (.string ⟨y.toArray⟩) := (hb1.cell (p := ⟨w.heap.size, 1, none⟩) (by rw [World.size_alloc]; exact Nat.lt_succ_self _)).trans HA.out.2
  have HB := Lib.hid (Base.then_below HA.out.1 hb1)
  clear hb1
  cases p
  · go_wp2
    go_ret
    exact ⟨rfl, HB.out⟩
  · go_wp2_with (fail)
    go_at_call 129
    refine (HV.out w1).mono ?_
    rintro e w2 ⟨rfl, hb2⟩
    have HB2 := Lib.hid (Base.then_below HB.out hb2)
    clear hb2
    cases q
    · go_wp2
      go_ret
      exact ⟨rfl, HB2.out⟩
    · go_wp2
      go_ret
      exact ⟨rfl, HB2.out⟩

def IdxEnd0 (l : List Fld) (w : World) (e : Ending) (w' : World) : Prop := ∃ z : Int, e = .returned (.int .i64 z) ∧ ((0 ≤ z ∧ l.all fldOk = false) ∨ (z < 0 ∧ l.all fldOk = true)) ∧ Below w.heap.size w w'

set_option maxHeartbeats 1000000 in
theorem idx_are (v : Value) (B : Nat) (l : List Fld) (w : World) (h : Holds w B v l) (hB : B ≤ w.heap.size) (hl : total l ≤ 1048576) :
    Calls Tryz.prog 130 #[v, .func (.func 127) #[] #[]] w (IdxEnd0 l w) := by
  have hll : l.length ≤ 1048576 := by unfold total at hl; omega
  obtain ⟨a, cap, rfl, ha⟩ := shape_any h
  have HA := Lib.hid ha
  have HT := Lib.hid hl
  clear ha h hl
  go_enter Tryz.func130, Tryz.ntmps130
  go_wp2
  go_loopw [8] (fun i wr => ∃ k : Nat, k ≤ l.length ∧ i = .int .i64 (k : Int) ∧ Hid ((l.take k).all fldOk = true) ∧ Below w.heap.size w wr) (fun i _ => l.length - (intOf i).toNat)
  case atStart => exact ⟨0, Nat.zero_le _, rfl, rfl, Below.refl _ _⟩
  case round =>
    obtain ⟨k, hk, rfl, hn, hb⟩ := hrel
    by_cases hlt : k < l.length
    · obtain ⟨b, off, rfl, hbl, hc⟩ := HA.out (by omega)
      obtain ⟨c1, c2⟩ := at_below hc hb (by omega) k hlt
      have HB := Lib.hid hb
      have HM := Lib.hid (all_more hlt)
      have HX : Hid (fldOk (l.getD k nofld) = false → l.all fldOk = false) := Lib.hid (all_bad hlt)
      obtain ⟨z1, z2⟩ := size_of hlt
      have HZ := Lib.hid (And.intro (Nat.le_trans z1 HT.out) (Nat.le_trans z2 HT.out))
      generalize l.getD k nofld = f at c1 c2 HM HX HZ
      obtain ⟨x, y⟩ := f
      clear hb hc z1 z2
      unfold sv at c1 c2
      have HK := Lib.hid (are_closure x y wr HZ.out.1 HZ.out.2)
      generalize fldOk (x, y) = q at HK HM HX
      go_wp2_with (fail)
      go_at_call 127
      refine HK.out.mono ?_
      rintro e w1 ⟨rfl, hb1⟩
      have HB1 := Lib.hid (Base.then_below HB.out hb1)
      clear hb1
      cases q
      · have HR : Hid (l.all fldOk = false) := Lib.hid (HX.out rfl)
        clear HX HM hn
        go_wp2
        go_ret
        exact ⟨_, rfl, Or.inl ⟨by omega, HR.out⟩, HB1.out⟩
      · have HR : Hid ((l.take (k + 1)).all fldOk = true) := Lib.hid (by rw [HM.out, hn.out]; rfl)
        clear HX HM hn
        go_wp2
        go_roundw
        case rel => exact ⟨k + 1, by omega, by go_num, HR.out, HB1.out⟩
        case measure => simp [intOf]; omega
    · have HR : Hid (l.all fldOk = true) := Lib.hid (by have h := hn.out; rwa [List.take_of_length_le (by omega)] at h)
      go_wp2
      go_ret
      exact ⟨_, rfl, Or.inr ⟨by decide, HR.out⟩, hb⟩

theorem contains_are (v : Value) (B : Nat) (l : List Fld) (w : World) (h : Holds w B v l) (hB : B ≤ w.heap.size) (hl : total l ≤ 1048576) :
    Calls Tryz.prog 90 #[v, .func (.func 127) #[] #[]] w fun e w' => e = .returned (.bool (!l.all fldOk)) ∧ Below w.heap.size w w' := by
  have HI := Lib.hid (idx_are v B l w h hB hl)
  clear h
  go_enter Tryz.func90, Tryz.ntmps90
  go_wp2_with (fail)
  go_at_call 130
  refine HI.out.mono ?_
  rintro e w1 ⟨z, rfl, hz, hb⟩
  rcases hz with ⟨hz, hp⟩ | ⟨hz, hp⟩
  · have HP := Lib.hid hp
    have HB := Lib.hid hb
    clear hb hp
    go_wp2
    go_ret
    exact ⟨congrArg (fun q => Ending.returned (.bool q)) (show true = !l.all fldOk by rw [HP.out]; rfl), HB.out⟩
  · have HP := Lib.hid hp
    have hzn : ¬ 0 ≤ z := by omega
    have HB := Lib.hid hb
    clear hb hp
    go_wp2
    go_ret
    exact ⟨congrArg (fun q => Ending.returned (.bool q)) (show decide (0 ≤ z) = !l.all fldOk by rw [HP.out]; simp; omega), HB.out⟩

theorem impl_are (v : Value) (B : Nat) (l : List Fld) (w : World) (h : Holds w B v l) (hB : B ≤ w.heap.size) (hl : total l ≤ 1048576) :
    Calls Tryz.prog 89 #[v] w (AreEnd l w) := by
  have hll : l.length ≤ 1048576 := by unfold total at hl; omega
  have HI := Lib.hid (contains_are v B l w h hB hl)
  obtain ⟨a, cap, rfl, ha⟩ := shape_any h
  have HF : Hid (fldsOk l = (l.all fldOk && decide (l.length ≤ 24))) := Lib.hid rfl
  clear h ha hl
  by_cases h24 : l.length ≤ 24
  · have hi : (l.length : Int) ≤ 24 := by omega
    have HF' : Hid (fldsOk l = l.all fldOk) := Lib.hid (by rw [HF.out]; simp [h24])
    clear HF
    generalize l.all fldOk = q at HI HF'
    go_enter Tryz.func89, Tryz.ntmps89
    go_wp2_with (fail)
    go_at_call 90
    refine HI.out.mono ?_
    rintro e w1 ⟨rfl, hb⟩
    go_wp2
    go_ret
    refine ⟨congrArg (fun q => Ending.returned (.bool q)) (show _ = fldsOk l from ?_), hb⟩
    rw [HF'.out]
    all_goals simp
  · have hi : ¬ (l.length : Int) ≤ 24 := by omega
    have HF' : Hid (false = fldsOk l) := Lib.hid (by rw [HF.out]; simp [h24])
    clear HF HI
    go_enter Tryz.func89, Tryz.ntmps89
    go_wp2
    go_ret
    exact ⟨ret_b HF'.out, Below.refl _ _⟩
end Go.Proofs.YtegaakgmfphcaaaGreatDoor.Flds

/-
  CONTRACT of the program's filterFields, at any closure with one captured variable that only reads: it returns, in new memory, the fields that the closure keeps; nothing that was there before is changed.
-/
namespace Go.Proofs.YtegaakgmfphcaaaGreatDoor.Flds
open Go Go.RowKit
set_option linter.unusedVariables false
set_option maxRecDepth 1000000

theorem filt_more {p : Fld → Bool} {l : List Fld} {k : Nat} (h : k < l.length) : (l.take (k + 1)).filter p = if p (l.getD k nofld) = true then (l.take k).filter p ++ [l.getD k nofld] else (l.take k).filter p := by
  rw [List.take_succ_eq_append_getElem h, List.filter_append]
  have e : l.getD k nofld = l[k] := by simp [List.getD, h]
  rw [e]
  by_cases hp : p l[k] = true
  · simp [hp]
  · simp [hp]
theorem filt_le (p : Fld → Bool) (l : List Fld) (k : Nat) : ((l.take k).filter p).length ≤ l.length := by
  have h1 := List.length_filter_le p (l.take k); have h2 := List.length_take_le' k l; omega

def FilterEnd (l : List Fld) (w : World) (e : Ending) (w' : World) : Prop := ∃ v, e = .returned v ∧ Own w' w.heap.size v l ∧ Below w.heap.size w w'
/-- K is a function with a body. -/
def Enters (K : FuncId) : Prop := ∀ (args : Array Value) (w : World), Sem.run Tryz.prog (callFunc K args) w = .ok (.enter K args) w
/-- What a closure that keeps by 'p' does, at every world that has only grown. -/
def Keeps (K : FuncId) (q : Value) (p : Fld → Bool) (w : World) : Prop := ∀ (x y : List UInt8) (wx : World), Below w.heap.size w wx → Calls Tryz.prog K #[.agg #[.string ⟨x.toArray⟩, .string ⟨y.toArray⟩], q] wx fun e w' => e = .returned (.bool (p (x, y))) ∧ Below wx.heap.size wx w'

theorem filter_nil (K : FuncId) (q : Value) (a : Option Addr) (cap : Nat) (w : World) :
    Calls Tryz.prog 29 #[.slice a 0 cap, .func (.func K) #[] #[q]] w (FilterEnd [] w) := by
  go_enter Tryz.func29, Tryz.ntmps29
  go_wp2
  go_loop [5, 11] (fun v i => i = .int .i64 0 ∧ v = .slice (some ⟨w.heap.size, 0, none⟩) 0 0) (fun _ i => 0)
  case atStart => exact ⟨rfl, rfl⟩
  case round =>
    obtain ⟨rfl, rfl⟩ := hrel
    go_wp2
    go_ret
    exact ⟨_, rfl, own_lit_nil w, (Below.refl _ _).alloc (Nat.le_refl _) _⟩

theorem alloc_two (w : World) (x y : Value) (T : TypeId) : (w.alloc (.cells #[x, y] T)).cell? ⟨w.heap.size, 0, none⟩ = some x ∧ (w.alloc (.cells #[x, y] T)).cell? ⟨w.heap.size, 1, none⟩ = some y := ⟨by rw [World.cell?_alloc_new]; rfl, by rw [World.cell?_alloc_new]; rfl⟩

set_option maxHeartbeats 1000000 in
theorem filter_some (K : FuncId) (q : Value) (p : Fld → Bool) (b off cap : Nat) (l : List Fld) (w : World) (hE : Enters K) (hK : Keeps K q p w) (hc : At w b off l) (h0 : 0 < l.length) (hl : l.length ≤ 1048576) :
    Calls Tryz.prog 29 #[.slice (some ⟨b, off, none⟩) l.length cap, .func (.func K) #[] #[q]] w (FilterEnd (l.filter p) w) := by
  obtain ⟨i0, hi, hz0, hz1, hz2⟩ := info_parts info_fld
  have hbl := at_lt hc h0
  have HC := Lib.hid hc
  have HK := Lib.hid hK
  have HO := Lib.hid (own_lit_nil w)
  have HE := Lib.hid hE
  clear hc hK hE
  go_enter Tryz.func29, Tryz.ntmps29
  go_wp2
  go_loopw [5, 11] (fun v i wr => ∃ k : Nat, k ≤ l.length ∧ i = .int .i64 (k : Int) ∧ Own wr w.heap.size v ((l.take k).filter p) ∧ Below w.heap.size w wr) (fun _ i _ => l.length - (intOf i).toNat)
  case atStart => exact ⟨0, Nat.zero_le _, rfl, by rw [List.take_zero]; exact HO.out, (Below.refl _ _).alloc (Nat.le_refl _) _⟩
  case round =>
    clear HO
    obtain ⟨k, hk, rfl, hown, hb⟩ := hrel
    by_cases hlt : k < l.length
    · obtain ⟨c1, c2⟩ := at_below HC.out hb hbl k hlt
      have HM := Lib.hid (filt_more (p := p) hlt)
      generalize hx : l.getD k nofld = f at c1 c2 HM
      clear hx
      obtain ⟨x, y⟩ := f
      unfold sv at c1 c2
      have HB := Lib.hid hb
      have HO := Lib.hid hown
      clear hb hown
      have hws := HB.out.size
      have hwa := alloc_two wr (.string ⟨x.toArray⟩) (.string ⟨y.toArray⟩) 39
      have HKx := Lib.hid (HK.out x y (wr.alloc (.cells #[.string ⟨x.toArray⟩, .string ⟨y.toArray⟩] 39)) (HB.out.alloc HB.out.size _))
      by_cases hp : p (x, y) = true
      · rw [hp] at HKx
        rw [if_pos hp] at HM
        clear hp
        have hL := fcs_len ((l.take k).filter p)
        have HL := Lib.hid (filt_le p l k)
        go_wp2_with (fail)
        rw [HE.out, Oper.upon_enter]
        refine HKx.out.mono ?_
        rintro e w1 ⟨rfl, hb1⟩
        have hg1 := hb1.size
        rw [World.size_alloc] at hg1
        have d1 : w1.cell? ⟨wr.heap.size, 0, none⟩ = some (.string ⟨x.toArray⟩) := (hb1.cell (p := ⟨wr.heap.size, 0, none⟩) (by rw [World.size_alloc]; exact Nat.lt_succ_self _)).trans hwa.1
        have d2 : w1.cell? ⟨wr.heap.size, 1, none⟩ = some (.string ⟨y.toArray⟩) := (hb1.cell (p := ⟨wr.heap.size, 1, none⟩) (by rw [World.size_alloc]; exact Nat.lt_succ_self _)).trans hwa.2
        have hbb : Below wr.heap.size wr w1 := ((Below.refl wr.heap.size wr).alloc (Nat.le_refl _) _).trans (hb1.mono (by rw [World.size_alloc]; omega))
        have hown := own_below HO.out hbb
        have hb := HB.out.trans (hbb.mono HB.out.size)
        clear hb1 hbb
        go_wp2_with (at_builtin; refine wpList_append_own _ rfl (.tmp 18) (.tmp 20) 24 rfl w.heap.size 39 i0 (.agg #[.string ⟨#[]⟩, .string ⟨#[]⟩]) 2 32 Tryz.underlying24 hi hz0 hz1 hz2 rfl (by decide) _ _ _ rfl (hown.alloc _) ⟨w1.heap.size, 0, none⟩ 1 1 [.string ⟨x.toArray⟩, .string ⟨y.toArray⟩] rfl rfl (news_two _ _ _ _) (two_one (x, y)) (by have := HL.out; unfold maxLen; omega) (by have := HL.out; omega) (by have := hb.size; simp; omega) ?_; intro v1 w2 hown1 hg2 _)
        have R := Lib.hid (push_own (f := (x, y)) hown hb (Nat.le_refl _) hown1 hg2)
        clear hown hown1 hg2 hb
        go_wp2
        go_roundw
        case rel => exact ⟨k + 1, by omega, by go_num, by rw [HM.out]; exact R.out.1, R.out.2⟩
        case measure => simp [intOf]; omega
      · have hp' : p (x, y) = false := by simpa using hp
        rw [hp'] at HKx
        rw [if_neg hp] at HM
        clear hp hp'
        go_wp2_with (fail)
        rw [HE.out, Oper.upon_enter]
        refine HKx.out.mono ?_
        rintro e w1 ⟨rfl, hb1⟩
        have hbb : Below wr.heap.size wr w1 := ((Below.refl wr.heap.size wr).alloc (Nat.le_refl _) _).trans (hb1.mono (by rw [World.size_alloc]; omega))
        have HR := Lib.hid (And.intro (own_below HO.out hbb) (HB.out.trans (hbb.mono HB.out.size)))
        clear hb1 hbb
        go_wp2
        go_roundw
        case rel => exact ⟨k + 1, by omega, by go_num, by rw [HM.out]; exact HR.out.1, HR.out.2⟩
        case measure => simp [intOf]; omega
    · have HF : Hid ((l.take k).filter p = l.filter p) := Lib.hid (by rw [List.take_of_length_le (by omega)])
      have HO := Lib.hid (And.intro hown hb)
      clear hown hb
      go_wp2
      go_ret
      exact ⟨_, rfl, by rw [← HF.out]; exact HO.out.1, HO.out.2⟩

theorem filter_any (K : FuncId) (q : Value) (p : Fld → Bool) (v : Value) (B : Nat) (l : List Fld) (w : World) (hE : Enters K) (hK : Keeps K q p w) (h : Holds w B v l) (hl : l.length ≤ 1048576) :
    Calls Tryz.prog 29 #[v, .func (.func K) #[] #[q]] w (FilterEnd (l.filter p) w) := by
  rcases h with ⟨rfl, a, cap, rfl⟩ | ⟨h0, b, off, cap, rfl, _, _, hc⟩
  · exact filter_nil K q a cap w
  · exact filter_some K q p b off cap l w hE hK hc h0 hl

/-! The closures of GetField and DropField: one captured text. -/
theorem enters_get : Enters 30 := fun args w => rfl
end Go.Proofs.YtegaakgmfphcaaaGreatDoor.Flds

/-
  CONTRACT of the model's JoinList: at every slice of texts that are not too long together it returns the texts with a comma and a space between them; nothing that was there before is changed.
-/
namespace Go.Proofs.YtegaakgmfphcaaaGreatDoor.Tx
open Go Go.RowKit Strs
set_option linter.unusedVariables false
set_option maxRecDepth 1000000

end Go.Proofs.YtegaakgmfphcaaaGreatDoor.Tx

/-
  CONTRACT of the program's JoinList: at every slice of texts that are not too long together it returns the texts with a comma and a space between them; nothing that was there before is changed.
-/
namespace Go.Proofs.YtegaakgmfphcaaaGreatDoor.Tx
open Go Go.RowKit Strs
set_option linter.unusedVariables false
set_option maxRecDepth 1000000

theorem lib_join (v : Value) (B : Nat) (xs : List (List UInt8)) (w : World) (h : Holds w B v xs) (ht : total xs ≤ 67108864) :
    Calls Tryz.prog 54 #[v, .string ⟨#[44, 32]⟩] w (JoinEnd xs w) := by
  have hl : xs.length ≤ 67108864 := by unfold total at ht; omega
  rcases h with ⟨rfl, a, cap, rfl⟩ | ⟨h0, b, off, cap, rfl, _, hcap, hc⟩
  · refine (Tryz.strings_Join_none a cap ⟨#[44, 32]⟩ w).mono ?_
    rintro e w' ⟨rfl, rfl⟩
    exact ⟨rfl, Below.refl _ _⟩
  · have hm : (xs.map (fun x => (⟨x.toArray⟩ : ByteArray))).map (·.data.toList) = xs := by rw [List.map_map]; exact List.map_id'' (fun _ => rfl) xs
    have hlen : (Lib.join xs [44, 32]).length ≤ 140737488355328 := by
      have h1 := join_len xs xs.length (Nat.le_refl _)
      rw [List.take_length] at h1
      have h2 := pre_le xs xs.length
      have : (join xs).length = (Lib.join xs [44, 32]).length := rfl
      unfold total at ht; omega
    have c := Tryz.strings_Join b off cap (xs.map (fun x => (⟨x.toArray⟩ : ByteArray))) ⟨#[44, 32]⟩ w (fun j x hj => by
      rw [List.getElem?_map] at hj
      have hjl : j < xs.length := by
        rcases Nat.lt_or_ge j xs.length with h' | h'
        · exact h'
        · rw [List.getElem?_eq_none h'] at hj; cases hj
      rw [hc j hjl]
      rw [List.getElem?_eq_getElem hjl] at hj
      simp at hj; subst hj
      simp [List.getD, hjl, sv]) (at_lt hc h0) (by simp; omega) (by simpa using hcap) (by rw [hm]; exact hlen)
    rw [hm, List.length_map] at c
    exact c

theorem impl_join (v : Value) (B : Nat) (xs : List (List UInt8)) (w : World) (h : Holds w B v xs) (ht : total xs ≤ 67108864) :
    Calls Tryz.prog 31 #[v] w (JoinEnd xs w) := by
  have c1 := lib_join v B xs w h ht
  unfold JoinEnd at c1 ⊢
  generalize (⟨(join xs).toArray⟩ : ByteArray) = z at c1 ⊢
  clear h
  go_enter Tryz.func31, Tryz.ntmps31
  go_wp2_with (go_at_call 54; refine c1.mono ?_; rintro e w1 ⟨rfl, hb⟩)
  go_ret
  exact ⟨rfl, hb⟩
end Go.Proofs.YtegaakgmfphcaaaGreatDoor.Tx
