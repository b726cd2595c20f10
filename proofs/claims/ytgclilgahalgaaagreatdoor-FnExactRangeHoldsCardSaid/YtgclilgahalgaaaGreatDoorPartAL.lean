/-
  CONTRACTS AND PLAIN FACTS, several texts in one; each says in its own words what it proves.
-/
import Derived.Test.YtgclilgahalgaaaGreatDoorPartAB
import Derived.Test.YtgclilgahalgaaaGreatDoorPartAH
import Derived.Test.YtgclilgahalgaaaGreatDoorPartAJ
import Derived.Test.YtgclilgahalgaaaGreatDoorPartAK
import Derived.Test.YtgclilgahalgaaaGreatDoorPartK
import Derived.Test.YtgclilgahalgaaaGreatDoorPartA
import Derived.Stop.Asserts

/-
  CONTRACTS of both sides' way to the rules of a message (the program's rulesOf, the model's l19Rules) and of the model's LifetimeOf; nothing that was there before is changed.
-/
namespace Go.Proofs.YtgclilgahalgaaaGreatDoor.Lif
open Go Go.RowKit
set_option linter.unusedVariables false
set_option maxRecDepth 1000000

theorem unq_len : ∀ (n : Nat) (l : List UInt8), l.length ≤ n → (Tx.unq l).1.length ≤ l.length
  | 0, l, h => by rw [List.length_eq_zero_iff.1 (by omega : l.length = 0)]; simp [Tx.unq]
  | n + 1, l, h => by
    match l, h with
    | [], _ => simp [Tx.unq]
    | [c], _ => unfold Tx.unq; split <;> simp
    | c :: d :: r, h =>
      simp at h
      have h1 := unq_len n r (by omega)
      have h2 := unq_len n (d :: r) (by simp; omega)
      unfold Tx.unq
      split
      · simp
      · split
        · simp; omega
        · simp at h2 ⊢; omega
theorem unqt_len (l : List UInt8) : (Tx.unqText l).length ≤ l.length := by
  unfold Tx.unqText
  have := unq_len _ (l.drop 1) (Nat.le_refl _)
  simp at this ⊢; omega
theorem dread_len {x : List UInt8} {d : Dir.T} (h : Dir.dread x = some d) : d.2.1.length ≤ x.length := by
  have hp := Dir.pairs_len x
  obtain ⟨a, b, q, e⟩ : ∃ a b q, Tx.pairs x = (a, b, q) := ⟨_, _, _, rfl⟩
  rw [Dir.dread_eq e] at h
  rw [e] at hp
  simp only at hp
  have hu := unqt_len b
  split at h
  · split at h
    · split at h
      · cases h; exact hp.2
      · split at h
        · cases h; exact Nat.le_trans hu hp.2
        · cases h
    · cases h; simp
  · cases h
theorem dparse_mem {s : List UInt8} {d : Dir.T} (h : d ∈ Dir.dparse s) : d.2.1.length ≤ s.length := by
  unfold Dir.dparse Dir.dparts at h
  obtain ⟨x, hx, e⟩ := List.mem_filterMap.1 h
  have h1 := dread_len e
  have h2 := Tx.split_elem s x hx
  omega
theorem dparse_count (s : List UInt8) : (Dir.dparse s).length ≤ s.length + 1 := by
  have h1 := Dir.dparts_len (Tx.split s)
  have h2 := Tx.split_count s
  unfold Dir.dparse; omega
def ccN : List UInt8 := [99, 97, 99, 104, 101, 45, 99, 111, 110, 116, 114, 111, 108]
def smN : List UInt8 := [115, 45, 109, 97, 120, 97, 103, 101]
def maN : List UInt8 := [109, 97, 120, 45, 97, 103, 101]
def exN : List UInt8 := [101, 120, 112, 105, 114, 101, 115]
/-- The rules of a message with these fields. -/
def rules (l : List Flds.Fld) : List Dir.T := Dir.dparse (Flds.got ccN l)
theorem rules_len {l : List Flds.Fld} (hl : Flds.total l ≤ 1048576) : (rules l).length ≤ 4194304 := by
  have h1 := dparse_count (Flds.got ccN l)
  have h2 := Rgh.got_short (n := ccN) (by decide) l
  unfold rules; omega
theorem rules_mem {l : List Flds.Fld} (hl : Flds.total l ≤ 1048576) : ∀ d ∈ rules l, d.2.1.length ≤ 1048576 := fun d hd => by
  have h1 := dparse_mem hd
  have h2 := Rgh.got_short (n := ccN) (by decide) l
  omega
theorem sof_bd (n : List UInt8) (l : List Dir.T) : 0 ≤ (Dir.sof n l).1 ∧ (Dir.sof n l).1 ≤ 2147483648 := by
  unfold Dir.sof
  split
  · simp
  · exact Dir.secs_bd _
def RulesEnd (l : List Flds.Fld) (w : World) (e : Ending) (w' : World) : Prop := ∃ v, e = .returned v ∧ Dir.Own w' w.heap.size v (rules l) ∧ Below w.heap.size w w'

set_option maxHeartbeats 1000000 in
theorem spec_rules (v : Value) (B : Nat) (l : List Flds.Fld) (w : World) (h : Flds.Holds w B v l) (hl : Flds.total l ≤ 1048576) :
    Calls Tryz.prog 41 #[v] w (RulesEnd l w) := by
  have hg := Rgh.got_short (n := ccN) (by decide) l
  have HG := Lib.hid (Flds.spec_lget v B l ccN w h (by omega))
  have HP := Lib.hid (fun W => Dir.spec_parse (Flds.got ccN l) W (by omega))
  unfold Flds.GotEnd at HG
  unfold Dir.ParsedS at HP
  obtain ⟨a, cap, rfl, _⟩ := Flds.shape_lget h
  unfold RulesEnd rules
  clear h hl hg
  generalize Flds.got ccN l = g at HG HP ⊢
  unfold ccN at HG
  go_enter Tryz.func41, Tryz.ntmps41
  go_wp2_with (fail)
  go_at_call 25
  refine HG.out.mono ?_
  rintro e w1 ⟨rfl, hb1⟩
  have HB1 := Lib.hid hb1
  clear hb1
  go_wp2_with (fail)
  go_at_call 64
  refine (HP.out _).mono ?_
  rintro e w2 ⟨u, rfl, ho2, hb2⟩
  have HB2 := Lib.hid (Base.then_below HB1.out hb2)
  have HO := Lib.hid (Dir.own_mono ho2 HB1.out.size)
  clear hb2 ho2
  go_wp2
  go_ret
  exact ⟨u, rfl, HO.out, HB2.out⟩
set_option maxHeartbeats 1000000 in
theorem impl_rules (v : Value) (B : Nat) (l : List Flds.Fld) (w : World) (h : Flds.Holds w B v l) (hB : B ≤ w.heap.size) (hl : Flds.total l ≤ 1048576) (hv : Dir.Errs w) :
    Calls Tryz.prog 66 #[v] w (RulesEnd l w) := by
  have hg := Rgh.got_short (n := ccN) (by decide) l
  have HG := Lib.hid (Flds.impl_get v B l ccN w h hB hl)
  have HP := Lib.hid (fun W (hb : Below w.heap.size w W) => Dir.impl_parse (Flds.got ccN l) W (by omega) (Dir.errs_below hv hb))
  unfold Flds.GetEnd at HG
  unfold Dir.Parsed at HP
  have hj : Tx.join (Flds.vals ccN l) = Flds.got ccN l := rfl
  rw [hj] at HG
  obtain ⟨a, cap, rfl, _⟩ := Flds.shape_lget h
  unfold RulesEnd rules
  clear h hl hg hj hv
  generalize Flds.got ccN l = g at HG HP ⊢
  generalize decide (0 < (Flds.vals ccN l).length) = q at HG
  unfold ccN at HG
  go_enter Tryz.func66, Tryz.ntmps66
  go_wp2_with (fail)
  go_at_call 36
  refine HG.out.mono ?_
  rintro e w1 ⟨rfl, hb1⟩
  have HB1 := Lib.hid hb1
  clear hb1
  go_wp2_with (fail)
  go_at_call 91
  refine (HP.out _ HB1.out).mono ?_
  rintro e w2 ⟨u, rfl, ho2, hb2⟩
  have HB2 := Lib.hid (Base.then_below HB1.out hb2)
  have HO := Lib.hid (Dir.own_mono ho2 HB1.out.size)
  clear hb2 ho2
  go_wp2
  go_ret
  exact ⟨u, rfl, HO.out, HB2.out⟩

/-- The guess. -/
noncomputable def guess (l : List Flds.Fld) : Int := max 0 (min 86400 (((Age.din Age.dateN l).1 - (Age.din Rgh.modN l).1).tdiv 10))
/-- How long an answer is fresh. -/
noncomputable def life (c : Int) (l : List Flds.Fld) : Int :=
  if (Dir.sof smN (rules l)).2 = true then (Dir.sof smN (rules l)).1
  else if (Dir.sof maN (rules l)).2 = true then (Dir.sof maN (rules l)).1
  else if 0 < (Flds.vals exN l).length then (if (Age.din exN l).2 = true ∧ (Age.din Age.dateN l).2 = true then max 0 ((Age.din exN l).1 - (Age.din Age.dateN l).1) else 0)
  else if c = 200 ∧ (Age.din Age.dateN l).2 = true ∧ (Age.din Rgh.modN l).2 = true then guess l else 0
def NumEnd (z : Int) (w : World) (e : Ending) (w' : World) : Prop := e = .returned (.int .i64 z) ∧ Below w.heap.size w w'
theorem ret_n {a b : Int} (h : a = b) : Ending.returned (.int .i64 a) = .returned (.int .i64 b) := by rw [h]
end Go.Proofs.YtgclilgahalgaaaGreatDoor.Lif

/-
  CONTRACT of the model's LifetimeOf; nothing that was there before is changed.
-/
namespace Go.Proofs.YtgclilgahalgaaaGreatDoor.Lif
open Go Go.RowKit
set_option linter.unusedVariables false
set_option maxRecDepth 1000000

set_option maxHeartbeats 4000000 in
theorem spec_life (c : Int) (v : Value) (B : Nat) (l : List Flds.Fld) (b : List UInt8) (w : World) (h : Flds.Holds w B v l) (hB : B ≤ w.heap.size) (hl : Flds.total l ≤ 1048576) :
    Calls Tryz.prog 17 #[.agg #[.int .i64 c, v, .string ⟨b.toArray⟩]] w (NumEnd (life c l) w) := by
  have HB0 : Hid (Below w.heap.size w (w.alloc (.cells #[.int .i64 c, v, .string ⟨b.toArray⟩] 29))) := Lib.hid ((Below.refl _ _).alloc (Nat.le_refl _) _)
  have HK := Lib.hid (fun w1 => Age.kept3 (w := w) (w1 := w1) (T := 29) (a := .int .i64 c) (b := v) (c := .string ⟨b.toArray⟩))
  have HR := Lib.hid (spec_rules v B l _ (Flds.holds_below h (HB0.out.mono hB)) hl)
  have HS := Lib.hid (fun n u (W W' : World) (ho : Dir.Own W w.heap.size u (rules l)) (hb : Below W.heap.size W W') => Dir.spec_sec u _ (rules l) n W' (Dir.holds_below (Dir.own_holds ho) hb) hb.size (rules_len hl) (rules_mem hl))
  have HG := Lib.hid (fun n W (hb : Below w.heap.size w W) => Flds.spec_lget v B l n W (Flds.holds_below h (hb.mono hB)) (by omega))
  have HGG := Lib.hid (fun n W (hb : Below w.heap.size w W) => Flds.spec_get v B l n W (Flds.holds_below h (hb.mono hB)) (by omega))
  have HP := Lib.hid (fun n W => Dt.spec_pdate (Flds.got n l) W (by have := Flds.got_len n l; omega))
  have HL : Hid (life c l = if (Dir.sof smN (rules l)).2 = true then (Dir.sof smN (rules l)).1
    else if (Dir.sof maN (rules l)).2 = true then (Dir.sof maN (rules l)).1
    else if 0 < (Flds.vals exN l).length then (if (Age.din exN l).2 = true ∧ (Age.din Age.dateN l).2 = true then max 0 ((Age.din exN l).1 - (Age.din Age.dateN l).1) else 0)
    else if c = 200 ∧ (Age.din Age.dateN l).2 = true ∧ (Age.din Rgh.modN l).2 = true then max 0 (min 86400 (((Age.din Age.dateN l).1 - (Age.din Rgh.modN l).1).tdiv 10)) else 0) := Lib.hid rfl
  unfold Dir.SecEnd at HS
  unfold Flds.GotEnd at HG
  unfold Flds.GetEnd at HGG
  unfold Dt.PdEnd at HP
  unfold RulesEnd at HR
  unfold NumEnd
  have HSS := Lib.hid (HS.out smN)
  have HSM := Lib.hid (HS.out maN)
  have HGD := Lib.hid (HG.out Age.dateN)
  have HGM := Lib.hid (HG.out Rgh.modN)
  have HGE := Lib.hid (HGG.out exN)
  have HPD := Lib.hid (HP.out Age.dateN)
  have HPM := Lib.hid (HP.out Rgh.modN)
  have HPE := Lib.hid (HP.out exN)
  have dbd := Age.din_bd Age.dateN l
  have mbd := Age.din_bd Rgh.modN l
  have ebd := Age.din_bd exN l
  have e1 : Dt.pdate (Flds.got Age.dateN l) = Age.din Age.dateN l := rfl
  have e2 : Dt.pdate (Flds.got Rgh.modN l) = Age.din Rgh.modN l := rfl
  have e3 : Dt.pdate (Flds.got exN l) = Age.din exN l := rfl
  have e4 : Tx.join (Flds.vals exN l) = Flds.got exN l := rfl
  rw [e1] at HPD
  rw [e2] at HPM
  rw [e3] at HPE
  rw [e4] at HGE
  clear e1 e2 e3 e4 h hl HS HG HGG HP
  generalize life c l = z at HL ⊢
  generalize rules l = rs at HR HSS HSM HL
  generalize Dir.sof smN rs = s1 at HSS HL
  generalize Dir.sof maN rs = s2 at HSM HL
  generalize Age.din Age.dateN l = dd at HPD HL dbd
  generalize Age.din Rgh.modN l = dm at HPM HL mbd
  generalize Age.din exN l = de at HPE HL ebd
  generalize Flds.got Age.dateN l = gd at HGD HPD
  generalize Flds.got Rgh.modN l = gm at HGM HPM
  generalize Flds.got exN l = ge at HGE HPE
  obtain ⟨s1, k1⟩ := s1
  obtain ⟨s2, k2⟩ := s2
  obtain ⟨dd, kd⟩ := dd
  obtain ⟨dm, km⟩ := dm
  obtain ⟨de, ke⟩ := de
  simp only at HSS HSM HPD HPM HPE HL dbd mbd ebd
  obtain ⟨hd0, hd1⟩ := dbd
  obtain ⟨hm0, hm1⟩ := mbd
  obtain ⟨he0, he1⟩ := ebd
  generalize hvq : decide (0 < (Flds.vals exN l).length) = vq at HGE
  have HVQ : Hid (0 < (Flds.vals exN l).length ↔ vq = true) := Lib.hid (by rw [← hvq]; simp)
  simp only [HVQ.out] at HL
  clear hvq HVQ
  unfold smN at HSS
  unfold maN at HSM
  unfold Age.dateN at HGD
  unfold Rgh.modN at HGM
  unfold exN at HGE
  go_enter Tryz.func17, Tryz.ntmps17
  go_wp2_with (fail)
  go_at_call 41
  refine HR.out.mono ?_
  rintro e w1 ⟨u, rfl, ho, hb1⟩
  obtain ⟨⟨x0, x1, x2⟩, hbw⟩ := HK.out _ hb1
  have HB1 := Lib.hid hbw
  have HO : Hid (Dir.Own w1 w.heap.size u rs) := Lib.hid (Dir.own_mono ho (by rw [World.size_alloc]; omega))
  have HXA := Lib.hid hb1
  clear hb1 hbw ho x0 x1 x2 HR
  go_wp2_with (fail)
  go_at_call 42
  refine (HSS.out u _ _ HO.out (Below.refl _ _)).mono ?_
  rintro e w2 ⟨rfl, hb2⟩
  have HC2 := Lib.hid hb2
  have HB2 := Lib.hid (Base.then_below HB1.out hb2)
  have HXB := Lib.hid (Base.then_below HXA.out hb2)
  clear hb2 HSS
  cases k1 with
  | true =>
    go_wp2
    go_ret
    exact ⟨ret_n (by rw [HL.out]; rfl), HB2.out⟩
  | false =>
    simp only [Bool.false_eq_true, if_false] at HL
    go_wp2_with (fail)
    go_at_call 42
    refine (HSM.out u _ _ HO.out HC2.out).mono ?_
    rintro e w3 ⟨rfl, hb3⟩
    have HB3 := Lib.hid (Base.then_below HB2.out hb3)
    have HXC := Lib.hid (Base.then_below HXB.out hb3)
    clear hb3 HSM HXB HXA HO HC2
    cases k2 with
    | true =>
      go_wp2
      go_ret
      exact ⟨ret_n (by rw [HL.out]; rfl), HB3.out⟩
    | false =>
      simp only [Bool.false_eq_true, if_false] at HL
      obtain ⟨⟨x0, x1, x2⟩, _⟩ := HK.out _ HXC.out
      go_wp2_with (fail)
      go_at_call 25
      refine (HGD.out _ HB3.out).mono ?_
      rintro e w4 ⟨rfl, hb4⟩
      have HB4 := Lib.hid (Base.then_below HB3.out hb4)
      have HXD := Lib.hid (Base.then_below HXC.out hb4)
      clear hb4 HXC x0 x1 x2 HGD
      go_wp2_with (fail)
      go_at_call 24
      refine (HPD.out _).mono ?_
      rintro e w5 ⟨rfl, hb5⟩
      have HB5 := Lib.hid (Base.then_below HB4.out hb5)
      have HXE := Lib.hid (Base.then_below HXD.out hb5)
      obtain ⟨⟨x0, x1, x2⟩, _⟩ := HK.out _ HXE.out
      clear hb5 HXD HPD
      go_wp2_with (fail)
      go_at_call 33
      refine (HGE.out _ HB5.out).mono ?_
      rintro e w6 ⟨rfl, hb6⟩
      have HB6 := Lib.hid (Base.then_below HB5.out hb6)
      have HXF := Lib.hid (Base.then_below HXE.out hb6)
      clear hb6 HXE x0 x1 x2 HGE
      cases vq with
      | true =>
        simp only [if_true] at HL
        go_wp2_with (fail)
        go_at_call 24
        refine (HPE.out _).mono ?_
        rintro e w7 ⟨rfl, hb7⟩
        have HB7 := Lib.hid (Base.then_below HB6.out hb7)
        clear hb7 HPE HGM HPM HXF
        cases ke
        · have HZ : Hid (z = 0) := Lib.hid (by rw [HL.out]; simp)
          go_wp2
          go_ret
          exact ⟨ret_n HZ.out.symm, HB7.out⟩
        · cases kd
          · have HZ : Hid (z = 0) := Lib.hid (by rw [HL.out]; simp)
            go_wp2
            go_ret
            exact ⟨ret_n HZ.out.symm, HB7.out⟩
          · have HZ : Hid (z = max 0 (de - dd)) := Lib.hid (by rw [HL.out]; simp)
            clear HL
            go_wp2_with (fail)
            go_at_call 23
            refine (Mm.spec_max _ _ _).mono ?_
            rintro e wm ⟨rfl, rfl⟩
            go_wp2
            go_ret
            exact ⟨ret_n HZ.out.symm, HB7.out⟩
      | false =>
        simp only [Bool.false_eq_true, if_false] at HL
        obtain ⟨⟨x0, x1, x2⟩, _⟩ := HK.out _ HXF.out
        go_wp2_with (fail)
        go_at_call 25
        refine (HGM.out _ HB6.out).mono ?_
        rintro e w7 ⟨rfl, hb7⟩
        have HB7 := Lib.hid (Base.then_below HB6.out hb7)
        have HXG := Lib.hid (Base.then_below HXF.out hb7)
        clear hb7 HXF x0 x1 x2 HGM
        go_wp2_with (fail)
        go_at_call 24
        refine (HPM.out _).mono ?_
        rintro e w8 ⟨rfl, hb8⟩
        have HB8 := Lib.hid (Base.then_below HB7.out hb8)
        have HXH := Lib.hid (Base.then_below HXG.out hb8)
        obtain ⟨⟨x0, x1, x2⟩, _⟩ := HK.out _ HXH.out
        clear hb8 HXG HPM HPE HXH
        by_cases hc : c = 200
        case neg =>
          have hq : (c == 200) = false := by simpa using hc
          have HZ : Hid (z = 0) := Lib.hid (by rw [HL.out, if_neg (fun h => hc h.1)])
          clear HL hc
          go_wp2
          go_ret
          exact ⟨ret_n HZ.out.symm, HB8.out⟩
        subst hc
        cases kd
        · have HZ : Hid (z = 0) := Lib.hid (by rw [HL.out]; simp)
          clear HL
          go_wp2
          go_ret
          exact ⟨ret_n HZ.out.symm, HB8.out⟩
        · cases km
          · have HZ : Hid (z = 0) := Lib.hid (by rw [HL.out]; simp)
            clear HL
            go_wp2
            go_ret
            exact ⟨ret_n HZ.out.symm, HB8.out⟩
          · have HZ : Hid (z = max 0 (min 86400 ((dd - dm).tdiv 10))) := Lib.hid (by rw [HL.out]; simp)
            clear HL
            go_wp2_with (fail)
            go_at_call 26
            refine (Mm.spec_min _ _ _).mono ?_
            rintro e wm ⟨rfl, rfl⟩
            go_wp2_with (fail)
            go_at_call 23
            refine (Mm.spec_max _ _ _).mono ?_
            rintro e wm ⟨rfl, rfl⟩
            go_wp2
            go_ret
            exact ⟨ret_n HZ.out.symm, HB8.out⟩
end Go.Proofs.YtgclilgahalgaaaGreatDoor.Lif

/-
  WHAT A TYPE ASSERTION OF AN INTERFACE VALUE TO A STRUCT TYPE GIVES.
-/
namespace Go.Proofs.YtgclilgahalgaaaGreatDoor.Tya
open Go Go.RowKit
set_option linter.unusedVariables false
set_option maxRecDepth 1000000
theorem ta_yes {P : Program} {T : TypeId} {fs : Array Field} (hu : P.underlying T = some (.struct fs)) (v : Value) (xT : TypeId) (w : World) : (Instr.typeAssert (.iface T v) xT T true).run P w = .ok (.tuple #[v, .bool true]) w := by
  simp [Instr.typeAssert, run_underlying hu]
theorem ta_no {P : Program} {T t : TypeId} {fs : Array Field} {z : Value} (hu : P.underlying T = some (.struct fs)) (hne : t ≠ T) (hz : (P.info? T).map (·.zero) = some (some z)) (v : Value) (xT : TypeId) (w : World) : (Instr.typeAssert (.iface t v) xT T true).run P w = .ok (.tuple #[z, .bool false]) w := by
  obtain ⟨j, hj, hz2⟩ := Option.map_eq_some_iff.1 hz
  simp [Instr.typeAssert, run_underlying hu, hne, zeroValue, typeInfo, hj, hz2]
theorem ta_nil {P : Program} {T : TypeId} {fs : Array Field} {z : Value} (hu : P.underlying T = some (.struct fs)) (hz : (P.info? T).map (·.zero) = some (some z)) (xT : TypeId) (w : World) : (Instr.typeAssert .nilIface xT T true).run P w = .ok (.tuple #[z, .bool false]) w := by
  obtain ⟨j, hj, hz2⟩ := Option.map_eq_some_iff.1 hz
  simp [Instr.typeAssert, run_underlying hu, zeroValue, typeInfo, hj, hz2]
theorem z1 : (Tryz.prog.info? 69).map (·.zero) = some (some (.agg #[.int .i64 0])) := by kernel_rfl
theorem z2 : (Tryz.prog.info? 71).map (·.zero) = some (some (.agg #[.int .i64 0, .int .i64 0])) := by kernel_rfl
theorem z3 : (Tryz.prog.info? 73).map (·.zero) = some (some (.agg #[.int .i64 0, .int .i64 0])) := by kernel_rfl
end Go.Proofs.YtgclilgahalgaaaGreatDoor.Tya
