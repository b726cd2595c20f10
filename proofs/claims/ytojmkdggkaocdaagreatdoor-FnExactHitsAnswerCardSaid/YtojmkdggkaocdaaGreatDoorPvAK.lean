/-
  CONTRACTS AND PLAIN FACTS, several texts in one; each says in its own words what it proves.
-/
import Derived.Test.YtojmkdggkaocdaaGreatDoorPvAG
import Derived.Test.YtojmkdggkaocdaaGreatDoorPvAH
import Derived.Test.YtojmkdggkaocdaaGreatDoorPvAE
import Derived.Test.YtojmkdggkaocdaaGreatDoorPvAJ
import Derived.Test.YtojmkdggkaocdaaGreatDoorPvG
import Derived.Test.YtojmkdggkaocdaaGreatDoorPvK
import Derived.Lib.SlTrimSet
import Derived.Lib.Case
import Derived.Lib.Strings
import Derived.Test.YtojmkdggkaocdaaGreatDoorPvM
import Derived.Test.YtojmkdggkaocdaaGreatDoorPvN
import Derived.Test.YtojmkdggkaocdaaGreatDoorPvS
import Derived.LoopTactic

/-
  CONTRACT of the model's NormalTarget; nothing that was there before is changed.
-/
namespace Go.Proofs.YtojmkdggkaocdaaGreatDoor.Nt
open Go Go.RowKit
set_option linter.unusedVariables false
set_option maxRecDepth 1000000
set_option maxRecDepth 1000000

theorem pre_byte {l : List UInt8} (h : 0 < (⟨l.toArray⟩ : ByteArray).size) : [47].isPrefixOf l = true ↔ (⟨l.toArray⟩ : ByteArray)[0] = 47 := by
  cases l with
  | nil => exact absurd h (by decide)
  | cons x r =>
    show ((47 : UInt8) == x && true) = true ↔ x = 47
    simp only [Bool.and_true, beq_iff_eq]; exact eq_comm
theorem pre_size {l : List UInt8} (h : ¬ 0 < (⟨l.toArray⟩ : ByteArray).size) : [47].isPrefixOf l = false := by
  cases l with
  | nil => rfl
  | cons x r => rw [bs_len] at h; simp at h
set_option maxHeartbeats 8000000 in
theorem spec_nt (l : List UInt8) (w : World) (hl : l.length ≤ 4194200) :
    Calls Tryz.prog 115 #[.string ⟨l.toArray⟩] w (PairEnd (ntar l) w) := by
  have hc := cut_len 63 l
  have HC := Lib.hid (Tx.spec_tgt l w (by omega))
  have HN : Hid (ntar l = if (normp (Tx.cutAt 63 l).1).2 = true ∧ (normp (Tx.cutAt 63 l).2.1).2 = true ∧ [47].isPrefixOf (normp (Tx.cutAt 63 l).1).1 = true then
    (if query (normp (Tx.cutAt 63 l).2.1).1 = [] then pathd (normp (Tx.cutAt 63 l).1).1 else pathd (normp (Tx.cutAt 63 l).1).1 ++ [63] ++ query (normp (Tx.cutAt 63 l).2.1).1, true)
    else ([], false)) := Lib.hid rfl
  unfold Tx.CutEnd at HC
  unfold PairEnd
  generalize ntar l = res at *
  obtain ⟨r1, r2⟩ := res
  generalize Tx.cutAt 63 l = ct at *
  obtain ⟨p, q, b⟩ := ct
  simp only at *
  have HP := Lib.hid (fun W => spec_plain ⟨p.toArray⟩ W (by rw [bs_len]; omega))
  have HQ := Lib.hid (fun W => spec_plain ⟨q.toArray⟩ W (by rw [bs_len]; omega))
  have hpl := normp_len p
  have hql := normp_len q
  unfold PairEnd at HP HQ
  rw [show (⟨p.toArray⟩ : ByteArray).data.toList = p from rfl] at HP
  rw [show (⟨q.toArray⟩ : ByteArray).data.toList = q from rfl] at HQ
  generalize normp p = np at *
  generalize normp q = nq at *
  obtain ⟨p1, pb⟩ := np
  obtain ⟨q1, qb⟩ := nq
  simp only at *
  have HPD := Lib.hid (fun W (h : 1 ≤ (⟨p1.toArray⟩ : ByteArray).size) => spec_path ⟨p1.toArray⟩ W h (by rw [bs_len]; omega))
  have HSO := Lib.hid (fun W => spec_query ⟨q1.toArray⟩ W (by rw [bs_len]; omega))
  have HB1 := @pre_byte p1
  have HB0 := @pre_size p1
  unfold StrEnd at HPD HSO
  rw [show (⟨p1.toArray⟩ : ByteArray).data.toList = p1 from rfl] at HPD
  rw [show (⟨q1.toArray⟩ : ByteArray).data.toList = q1 from rfl] at HSO
  have hdl := pathd_len p1
  have hul := query_len q1
  have hps := bs_len p1
  generalize pathd p1 = t at *
  generalize query q1 = u at *
  generalize hpre : [47].isPrefixOf p1 = pre at *
  have HTL : Hid (t.length ≤ 4194300) := Lib.hid (by omega)
  have HUL : Hid (u.length ≤ 4194300) := Lib.hid (by omega)
  have hpz : (⟨p1.toArray⟩ : ByteArray).size ≤ 4194304 := by omega
  generalize (⟨p1.toArray⟩ : ByteArray) = P at *
  clear hpre hps hc hpl hql hdl hul hl
  cases pb
  case false =>
    have HE : Hid ((r1, r2) = ([], false)) := Lib.hid (by rw [HN.out]; exact if_neg (fun h => Bool.noConfusion h.1))
    clear HN HB1 HB0
    go_enter Tryz.func115, Tryz.ntmps115
    go_wp2_with (fail)
    go_at_call 141
    refine (HC.out).mono ?_
    rintro e w1 ⟨rfl, hb1⟩
    have HB1w := Lib.hid hb1
    clear hb1
    go_wp2_with (fail)
    go_at_call 142
    refine (HP.out _).mono ?_
    rintro e w2 ⟨rfl, hb2⟩
    have HB2w := Lib.hid (Base.then_below HB1w.out hb2)
    clear hb2
    go_wp2_with (fail)
    go_at_call 142
    refine (HQ.out _).mono ?_
    rintro e w3 ⟨rfl, hb3⟩
    have HB3w := Lib.hid (Base.then_below HB2w.out hb3)
    clear hb3
    go_wp2
    all_goals first | go_region | skip
    all_goals go_wp2
    go_ret2
    all_goals exact ⟨ret_qn HE.out.symm, by first | exact HB3w.out | exact HB3w.out.drew | exact Rec.below_drewN HB3w.out _⟩
  cases qb
  case false =>
    have HE : Hid ((r1, r2) = ([], false)) := Lib.hid (by rw [HN.out]; exact if_neg (fun h => Bool.noConfusion h.2.1))
    clear HN HB1 HB0
    go_enter Tryz.func115, Tryz.ntmps115
    go_wp2_with (fail)
    go_at_call 141
    refine (HC.out).mono ?_
    rintro e w1 ⟨rfl, hb1⟩
    have HB1w := Lib.hid hb1
    clear hb1
    go_wp2_with (fail)
    go_at_call 142
    refine (HP.out _).mono ?_
    rintro e w2 ⟨rfl, hb2⟩
    have HB2w := Lib.hid (Base.then_below HB1w.out hb2)
    clear hb2
    go_wp2_with (fail)
    go_at_call 142
    refine (HQ.out _).mono ?_
    rintro e w3 ⟨rfl, hb3⟩
    have HB3w := Lib.hid (Base.then_below HB2w.out hb3)
    clear hb3
    go_wp2
    all_goals first | go_region | skip
    all_goals go_wp2
    go_ret2
    all_goals exact ⟨ret_qn HE.out.symm, by first | exact HB3w.out | exact HB3w.out.drew | exact Rec.below_drewN HB3w.out _⟩
  by_cases h0 : 0 < P.size
  case neg =>
    have h00 : P.size = 0 := by omega
    have HE : Hid ((r1, r2) = ([], false)) := Lib.hid (by rw [HN.out, HB0 h0]; exact if_neg (fun h => Bool.noConfusion h.2.2))
    have hz : ((P.size : Int) == 0) = true := by rw [h00]; rfl
    clear HN HB1 HB0 h0
    go_enter Tryz.func115, Tryz.ntmps115
    go_wp2_with (fail)
    go_at_call 141
    refine (HC.out).mono ?_
    rintro e w1 ⟨rfl, hb1⟩
    have HB1w := Lib.hid hb1
    clear hb1
    go_wp2_with (fail)
    go_at_call 142
    refine (HP.out _).mono ?_
    rintro e w2 ⟨rfl, hb2⟩
    have HB2w := Lib.hid (Base.then_below HB1w.out hb2)
    clear hb2
    go_wp2_with (fail)
    go_at_call 142
    refine (HQ.out _).mono ?_
    rintro e w3 ⟨rfl, hb3⟩
    have HB3w := Lib.hid (Base.then_below HB2w.out hb3)
    clear hb3
    go_wp2
    all_goals first | go_region | skip
    all_goals go_wp2
    go_ret2
    all_goals exact ⟨ret_qn HE.out.symm, by first | exact HB3w.out | exact HB3w.out.drew | exact Rec.below_drewN HB3w.out _⟩
  have hz : ((P.size : Int) == 0) = false := beq_eq_false_iff_ne.2 (by omega)
  have hi0 : (0 : Int) < (P.size : Int) := by omega
  by_cases hx : P[0] = 47
  case neg =>
    have hx1 := byn' (n := 47) 47 rfl hx
    have hpf : pre = false := by cases pre with | false => rfl | true => exact absurd ((HB1 h0).1 rfl) hx
    have HE : Hid ((r1, r2) = ([], false)) := Lib.hid (by rw [HN.out, hpf]; exact if_neg (fun h => Bool.noConfusion h.2.2))
    clear HN HB1 HB0 hx hpf
    go_enter Tryz.func115, Tryz.ntmps115
    go_wp2_with (fail)
    go_at_call 141
    refine (HC.out).mono ?_
    rintro e w1 ⟨rfl, hb1⟩
    have HB1w := Lib.hid hb1
    clear hb1
    go_wp2_with (fail)
    go_at_call 142
    refine (HP.out _).mono ?_
    rintro e w2 ⟨rfl, hb2⟩
    have HB2w := Lib.hid (Base.then_below HB1w.out hb2)
    clear hb2
    go_wp2_with (fail)
    go_at_call 142
    refine (HQ.out _).mono ?_
    rintro e w3 ⟨rfl, hb3⟩
    have HB3w := Lib.hid (Base.then_below HB2w.out hb3)
    clear hb3
    go_wp2
    all_goals first | go_region | skip
    all_goals go_wp2
    go_ret2
    all_goals exact ⟨ret_qn HE.out.symm, by first | exact HB3w.out | exact HB3w.out.drew | exact Rec.below_drewN HB3w.out _⟩
  have hx1 := bye' (n := 47) 47 rfl hx
  have HE : Hid ((r1, r2) = (if u = [] then t else t ++ [63] ++ u, true)) := Lib.hid (by rw [HN.out]; exact if_pos ⟨rfl, rfl, (HB1 h0).2 hx⟩)
  have a1 := Tx.addtwo t [63] (by have := HTL.out; simp only [List.length_cons, List.length_nil]; omega)
  have a2 := Tx.addtwo (t ++ [63]) u (by have := HTL.out; have := HUL.out; simp only [List.length_append, List.length_cons, List.length_nil]; omega)
  have H1 : Hid (1 ≤ P.size) := Lib.hid h0
  clear HN HB1 HB0 hx
  by_cases hu : u = []
  · subst hu
    rw [if_pos rfl] at HE
    clear a1 a2
    go_enter Tryz.func115, Tryz.ntmps115
    go_wp2_with (fail)
    go_at_call 141
    refine (HC.out).mono ?_
    rintro e w1 ⟨rfl, hb1⟩
    have HB1w := Lib.hid hb1
    clear hb1
    go_wp2_with (fail)
    go_at_call 142
    refine (HP.out _).mono ?_
    rintro e w2 ⟨rfl, hb2⟩
    have HB2w := Lib.hid (Base.then_below HB1w.out hb2)
    clear hb2
    go_wp2_with (fail)
    go_at_call 142
    refine (HQ.out _).mono ?_
    rintro e w3 ⟨rfl, hb3⟩
    have HB3w := Lib.hid (Base.then_below HB2w.out hb3)
    clear hb3
    go_wp2_with (fail)
    go_at_call 143
    refine (HPD.out _ H1.out).mono ?_
    rintro e w4 ⟨rfl, hb4⟩
    have HB4w := Lib.hid (Base.then_below HB3w.out hb4)
    clear hb4
    go_wp2_with (fail)
    go_at_call 144
    refine (HSO.out _).mono ?_
    rintro e w5 ⟨rfl, hb5⟩
    have HB5w := Lib.hid (Base.then_below HB4w.out hb5)
    clear hb5
    go_wp2
    all_goals first | go_region | skip
    all_goals go_wp2
    go_ret2
    all_goals exact ⟨ret_qn HE.out.symm, by first | exact HB5w.out | exact HB5w.out.drew | exact Rec.below_drewN HB5w.out _⟩
  · rw [if_neg hu] at HE
    have hu1 : (u == []) = false := by simpa using hu
    have hu2 : u.isEmpty = false := by
      cases u with
      | nil => exact absurd rfl hu
      | cons x r => rfl
    clear hu
    generalize t ++ [63] = t1 at *
    generalize t1 ++ u = t2 at *
    go_enter Tryz.func115, Tryz.ntmps115
    go_wp2_with (fail)
    go_at_call 141
    refine (HC.out).mono ?_
    rintro e w1 ⟨rfl, hb1⟩
    have HB1w := Lib.hid hb1
    clear hb1
    go_wp2_with (fail)
    go_at_call 142
    refine (HP.out _).mono ?_
    rintro e w2 ⟨rfl, hb2⟩
    have HB2w := Lib.hid (Base.then_below HB1w.out hb2)
    clear hb2
    go_wp2_with (fail)
    go_at_call 142
    refine (HQ.out _).mono ?_
    rintro e w3 ⟨rfl, hb3⟩
    have HB3w := Lib.hid (Base.then_below HB2w.out hb3)
    clear hb3
    go_wp2_with (fail)
    go_at_call 143
    refine (HPD.out _ H1.out).mono ?_
    rintro e w4 ⟨rfl, hb4⟩
    have HB4w := Lib.hid (Base.then_below HB3w.out hb4)
    clear hb4
    go_wp2_with (fail)
    go_at_call 144
    refine (HSO.out _).mono ?_
    rintro e w5 ⟨rfl, hb5⟩
    have HB5w := Lib.hid (Base.then_below HB4w.out hb5)
    clear hb5
    go_wp2
    all_goals first | go_region | skip
    all_goals go_wp2
    go_ret2
    all_goals exact ⟨ret_qn HE.out.symm, by first | exact HB5w.out | exact HB5w.out.drew | exact Rec.below_drewN HB5w.out _⟩
end Go.Proofs.YtojmkdggkaocdaaGreatDoor.Nt

/-
  PLAIN FACTS on the parts of a request: methods, hosts, targets.
-/
namespace Go.Proofs.YtojmkdggkaocdaaGreatDoor.Msg
open Go
set_option linter.unusedVariables false
set_option maxRecDepth 1000000

def nolow (c : UInt8) : Bool := !decide (97 ≤ c.toNat ∧ c.toNat ≤ 122)
def methOk (m : List UInt8) : Bool := m.all nolow && Tx.token m
def hbs : List UInt8 := [97, 98, 99, 100, 101, 102, 103, 104, 105, 106, 107, 108, 109, 110, 111, 112, 113, 114, 115, 116, 117, 118, 119, 120, 121, 122, 48, 49, 50, 51, 52, 53, 54, 55, 56, 57, 45, 46]
def hb (c : UInt8) : Bool := decide (97 ≤ c.toNat ∧ c.toNat ≤ 122) || (decide (48 ≤ c.toNat ∧ c.toNat ≤ 57) || (c == 45 || c == 46))
def hostOk (h : List UInt8) : Bool := h.all hb && decide (1 ≤ h.length ∧ h.length ≤ 40)
def tb (c : UInt8) : Bool := decide (33 ≤ c.toNat ∧ c.toNat ≤ 126)
def targOk (t : List UInt8) : Bool := t.all tb && (decide (1 ≤ t.length ∧ t.length ≤ 100) && t.head? == some 47)
theorem hb_set : ∀ c : UInt8, hbs.contains c = hb c := by
  have h : ∀ n : Fin 256, hbs.contains (UInt8.ofNat n.1) = hb (UInt8.ofNat n.1) := by decide +kernel
  intro c
  have := h ⟨c.toNat, c.toNat_lt⟩
  simpa using this
/-- Trimmed to nothing: every byte is of the set. -/
theorem trim_all (l : List UInt8) (p : UInt8 → Bool) (st : List UInt8) (hp : ∀ c, st.contains c = p c) : Lib.trimS l st = [] ↔ l.all p = true := by
  unfold Lib.trimS Lib.trimLeftS Lib.trimRightS
  have hf : (fun b : UInt8 => st.contains b) = p := funext hp
  rw [show (fun x : UInt8 => st.contains x) = p from hf]
  rw [List.all_eq_true]
  have key : ∀ m : List UInt8, m.dropWhile p = [] ↔ ∀ x ∈ m, p x = true := by
    intro m
    induction m with
    | nil => simp
    | cons a r ih =>
      by_cases h : p a = true
      · rw [List.dropWhile_cons_of_pos h, ih]; simp [h]
      · rw [List.dropWhile_cons_of_neg h]; simp [h]
  constructor
  · intro h
    have h1 := (key _).1 h
    -- what is left behind the first trimming is all of the set; so is what was taken away
    intro x hx
    by_cases hp2 : p x = true
    · exact hp2
    · exfalso
      have h2 : l.reverse.dropWhile p ≠ [] := fun e => hp2 ((key _).1 e x (by simpa using hx))
      have h3 : ∀ y ∈ l.reverse.dropWhile p, p y = true := fun y hy => h1 y (by simpa using hy)
      cases hd : l.reverse.dropWhile p with
      | nil => exact h2 hd
      | cons a r =>
        have : p a = false := by
          have := List.head?_dropWhile_not p l.reverse
          rw [hd] at this; simpa using this
        rw [hd] at h3
        have := h3 a (by simp)
        simp_all
  · intro h
    have h1 : l.reverse.dropWhile p = [] := (key _).2 (fun x hx => h x (by simpa using hx))
    rw [h1]; rfl
theorem trim_hb (l : List UInt8) : Lib.trimS l hbs = [] ↔ l.all hb = true := trim_all l hb hbs hb_set
/-- A token is of ASCII bytes. -/
theorem token_ascii {m : List UInt8} (h : Tx.token m = true) : ∀ (j : Nat) (b : UInt8), m[j]? = some b → b.toNat < 128 := by
  intro j b hb
  unfold Tx.token at h
  rw [Bool.and_eq_true, List.all_eq_true] at h
  have h1 := h.1 b (List.mem_of_getElem? hb)
  unfold Tx.tokc Tx.letc at h1
  rw [Bool.or_eq_true] at h1
  rcases h1 with h1 | h1
  · have hm : b ∈ Tx.marks := by simpa using h1
    have hall : ∀ x ∈ Tx.marks, x.toNat < 128 := by decide
    exact hall b hm
  · simp at h1; omega
theorem upper_same (m : List UInt8) : Lib.toUpperA m = m ↔ m.all nolow = true := by
  unfold Lib.toUpperA
  rw [List.all_eq_true]
  have one : ∀ c : UInt8, Lib.upperB c = c ↔ nolow c = true := by
    have h : ∀ n : Fin 256, Lib.upperB (UInt8.ofNat n.1) = UInt8.ofNat n.1 ↔ nolow (UInt8.ofNat n.1) = true := by decide +kernel
    intro c
    have := h ⟨c.toNat, c.toNat_lt⟩
    simpa using this
  constructor
  · intro h c hc
    obtain ⟨j, hj, rfl⟩ := List.getElem_of_mem hc
    have := congrArg (fun z : List UInt8 => z[j]?) h
    simp [hj] at this
    exact (one _).1 this
  · intro h
    conv => rhs; rw [← List.map_id m]
    apply List.map_congr_left
    intro c hc
    exact (one c).2 (h c hc)
theorem up_len (m : List UInt8) : (Lib.toUpperA m).length = m.length := by unfold Lib.toUpperA; simp
/-- One byte more, one byte that is not of them, and all of them. -/
theorem all_more {p : UInt8 → Bool} {s : ByteArray} {k : Nat} (h : k < s.size) (ha : (s.data.toList.take k).all p = true) (hc : p s[k] = true) : (s.data.toList.take (k + 1)).all p = true := by
  rw [Tx.take_snoc s k h, List.all_append, ha, List.all_cons, hc]; rfl
theorem all_bad {p : UInt8 → Bool} {s : ByteArray} {k : Nat} (h : k < s.size) (hc : p s[k] = false) : s.data.toList.all p = false := by
  rw [Bool.eq_false_iff]
  intro ha
  have hm : s[k] ∈ s.data.toList := by
    rw [← List.take_append_drop k s.data.toList, Tx.drop_cons s k h]; simp
  rw [List.all_eq_true] at ha
  have := ha _ hm
  rw [hc] at this; cases this
theorem all_end {p : UInt8 → Bool} {s : ByteArray} {k : Nat} (h : k = s.size) (ha : (s.data.toList.take k).all p = true) : s.data.toList.all p = true := by
  rwa [List.take_of_length_le (by rw [Tx.list_len]; omega)] at ha
theorem nolow_no {c : UInt8} (h : nolow c = false) : 97 ≤ (c.toNat : Int) ∧ (c.toNat : Int) ≤ 122 := by unfold nolow at h; simp at h; omega
theorem nolow_yes {c : UInt8} (h : nolow c = true) : (c.toNat : Int) < 97 ∨ 122 < (c.toNat : Int) := by unfold nolow at h; simp at h; omega
theorem tb_no {c : UInt8} (h : tb c = false) : (c.toNat : Int) < 33 ∨ 126 < (c.toNat : Int) := by unfold tb at h; simp at h; omega
theorem tb_yes {c : UInt8} (h : tb c = true) : 33 ≤ (c.toNat : Int) ∧ (c.toNat : Int) ≤ 126 := by unfold tb at h; simp at h; omega
theorem b45 (c : UInt8) : ((c.toNat : Int) == 45) = (c == 45) := Tx.eq_nat (n := 45) (by omega)
theorem b46 (c : UInt8) : ((c.toNat : Int) == 46) = (c == 46) := Tx.eq_nat (n := 46) (by omega)
theorem hb_cases (c : UInt8) : (hb c = true ∧ (97 ≤ (c.toNat : Int) ∧ (c.toNat : Int) ≤ 122)) ∨
    (hb c = true ∧ ((c.toNat : Int) < 97 ∨ 122 < (c.toNat : Int)) ∧ (48 ≤ (c.toNat : Int) ∧ (c.toNat : Int) ≤ 57)) ∨
    (hb c = true ∧ ((c.toNat : Int) < 97 ∨ 122 < (c.toNat : Int)) ∧ ((c.toNat : Int) < 48 ∨ 57 < (c.toNat : Int)) ∧ ((c.toNat : Int) == 45) = true) ∨
    (hb c = true ∧ ((c.toNat : Int) < 97 ∨ 122 < (c.toNat : Int)) ∧ ((c.toNat : Int) < 48 ∨ 57 < (c.toNat : Int)) ∧ ((c.toNat : Int) == 45) = false ∧ ((c.toNat : Int) == 46) = true) ∨
    (hb c = false ∧ ((c.toNat : Int) < 97 ∨ 122 < (c.toNat : Int)) ∧ ((c.toNat : Int) < 48 ∨ 57 < (c.toNat : Int)) ∧ ((c.toNat : Int) == 45) = false ∧ ((c.toNat : Int) == 46) = false) := by
  by_cases h1 : 97 ≤ c.toNat ∧ c.toNat ≤ 122
  · left; exact ⟨by unfold hb; simp [h1], by omega⟩
  by_cases h2 : 48 ≤ c.toNat ∧ c.toNat ≤ 57
  · right; left; exact ⟨by unfold hb; simp [h2], by omega, by omega⟩
  rw [b45, b46]
  cases h3 : c == 45
  · cases h4 : c == 46
    · right; right; right; right
      exact ⟨by unfold hb; rw [h3, h4, decide_eq_false h1, decide_eq_false h2]; rfl, by omega, by omega, rfl, rfl⟩
    · right; right; right; left
      exact ⟨by unfold hb; rw [h4]; simp, by omega, by omega, rfl, rfl⟩
  · right; right; left
    exact ⟨by unfold hb; rw [h3]; simp, by omega, by omega, rfl⟩
end Go.Proofs.YtojmkdggkaocdaaGreatDoor.Msg

/-
  CONTRACTS of what is a field's name (the model's l5Name, the program's isFieldName): a token without letters in upper case.
-/
namespace Go.Proofs.YtojmkdggkaocdaaGreatDoor.Tx
open Go Go.RowKit
set_option linter.unusedVariables false
set_option maxRecDepth 1000000

def nameOk (l : List UInt8) : Bool := token l && (lower l == l)

theorem spec_name (l : List UInt8) (w : World) (hs : l.length ≤ 1048576) :
    Calls Tryz.prog 211 #[.string ⟨l.toArray⟩] w fun e w' => e = .returned (.bool (nameOk l)) ∧ Below w.heap.size w w' := by
  have hsz : (⟨l.toArray⟩ : ByteArray).size ≤ 9223372036854775806 := by simp [ByteArray.size]; omega
  have c1 := spec_token ⟨l.toArray⟩ w hsz
  have c2 := spec_lower ⟨l.toArray⟩ w hsz
  have C1 : Hid (Calls Tryz.prog 103 #[.string ⟨l.toArray⟩] w fun e w' => e = .returned (.bool (token l)) ∧ w = w') := Lib.hid c1
  have C2 : Hid (Calls Tryz.prog 131 #[.string ⟨l.toArray⟩] w fun e w' => e = .returned (.string ⟨(lower l).toArray⟩) ∧ Below w.heap.size w w') := Lib.hid c2
  clear c1 c2 hsz
  unfold nameOk
  generalize token l = t at C1 ⊢
  generalize lower l = m at C2 ⊢
  cases t
  · go_enter Tryz.func211, Tryz.ntmps211
    go_wp2_with (go_at_call 103; refine C1.out.mono ?_; rintro e w' ⟨rfl, rfl⟩)
    go_ret
    exact ⟨rfl, Below.refl _ _⟩
  · by_cases e : m = l
    · subst e
      go_enter Tryz.func211, Tryz.ntmps211
      go_wp2_with (first
        | (go_at_call 103; refine C1.out.mono ?_; rintro e w' ⟨rfl, rfl⟩)
        | (go_at_call 131; refine C2.out.mono ?_; rintro e w2 ⟨rfl, hb⟩))
      go_ret
      exact ⟨by simp, hb⟩
    · have hq : (m == l) = false := by simpa using e
      go_enter Tryz.func211, Tryz.ntmps211
      go_wp2_with (first
        | (go_at_call 103; refine C1.out.mono ?_; rintro e w' ⟨rfl, rfl⟩)
        | (go_at_call 131; refine C2.out.mono ?_; rintro e w2 ⟨rfl, hb⟩))
      go_ret
      exact ⟨by rw [hq]; rfl, hb⟩

theorem impl_name (l : List UInt8) (w : World) (hs : l.length ≤ 1048576) :
    Calls Tryz.prog 229 #[.string ⟨l.toArray⟩] w fun e w' => e = .returned (.bool (nameOk l)) ∧ Below w.heap.size w w' := by
  have hsz : (⟨l.toArray⟩ : ByteArray).size ≤ 9223372036854775806 := by simp [ByteArray.size]; omega
  have c1 := impl_token ⟨l.toArray⟩ w hsz
  have c2 := impl_lower ⟨l.toArray⟩ w hsz
  have C1 : Hid (Calls Tryz.prog 113 #[.string ⟨l.toArray⟩] w fun e w' => e = .returned (.bool (token l)) ∧ w = w') := Lib.hid c1
  have C2 : Hid (Calls Tryz.prog 180 #[.string ⟨l.toArray⟩] w fun e w' => e = .returned (.string ⟨(lower l).toArray⟩) ∧ Below w.heap.size w w') := Lib.hid c2
  clear c1 c2 hsz
  unfold nameOk
  generalize token l = t at C1 ⊢
  generalize lower l = m at C2 ⊢
  cases t
  · go_enter Tryz.func229, Tryz.ntmps229
    go_wp2_with (go_at_call 113; refine C1.out.mono ?_; rintro e w' ⟨rfl, rfl⟩)
    go_ret
    exact ⟨rfl, Below.refl _ _⟩
  · by_cases e : m = l
    · subst e
      go_enter Tryz.func229, Tryz.ntmps229
      go_wp2_with (first
        | (go_at_call 113; refine C1.out.mono ?_; rintro e w' ⟨rfl, rfl⟩)
        | (go_at_call 180; refine C2.out.mono ?_; rintro e w2 ⟨rfl, hb⟩))
      go_ret
      exact ⟨by simp, hb⟩
    · have hq : (m == l) = false := by simpa using e
      go_enter Tryz.func229, Tryz.ntmps229
      go_wp2_with (first
        | (go_at_call 113; refine C1.out.mono ?_; rintro e w' ⟨rfl, rfl⟩)
        | (go_at_call 180; refine C2.out.mono ?_; rintro e w2 ⟨rfl, hb⟩))
      go_ret
      exact ⟨by rw [hq]; rfl, hb⟩
end Go.Proofs.YtojmkdggkaocdaaGreatDoor.Tx
