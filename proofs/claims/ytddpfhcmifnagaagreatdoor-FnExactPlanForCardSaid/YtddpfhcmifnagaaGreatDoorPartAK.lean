/-
  CONTRACTS AND PLAIN FACTS, several texts in one; each says in its own words what it proves.
-/
import Derived.Test.YtddpfhcmifnagaaGreatDoorPartAA
import Derived.Test.YtddpfhcmifnagaaGreatDoorPartAG
import Derived.Test.YtddpfhcmifnagaaGreatDoorPartAI
import Derived.Test.YtddpfhcmifnagaaGreatDoorPartAJ
import Derived.Test.YtddpfhcmifnagaaGreatDoorPartK
import Derived.Test.YtddpfhcmifnagaaGreatDoorPartA
import Derived.Stop.Asserts
import Derived.Test.YtddpfhcmifnagaaGreatDoorPartD

/-
  CONTRACTS of both sides' way to the rules of a message (the program's rulesOf, the model's l19Rules) and of the model's LifetimeOf; nothing that was there before is changed.
-/
namespace Go.Proofs.YtddpfhcmifnagaaGreatDoor.Lif
open Go Go.RowKit
set_option linter.unusedVariables false
set_option maxRecDepth 1000000

theorem unq_len : ∀ (n : Nat) (l : List UInt8), l.length ≤ n → (Tx.unq l).1.length ≤ l.length
  | 0, l, h => by rw [List.length_eq_zero_iff.1 (by omega : l.length = 0)]; simp [Tx.unq]
  | n + 1, l, h => by
    match l, h with
    | [], _ => simp [Tx.unq]
    | [c], _ => unfold Tx.unq; split <;> simp
    | c :: d :: r, h =>
      simp at h
      have h1 := unq_len n r (by omega)
      have h2 := unq_len n (d :: r) (by simp; omega)
      unfold Tx.unq
      split
      · simp
      · split
        · simp; omega
        · simp at h2 ⊢; omega
theorem unqt_len (l : List UInt8) : (Tx.unqText l).length ≤ l.length := by
  unfold Tx.unqText
  have := unq_len _ (l.drop 1) (Nat.le_refl _)
  simp at this ⊢; omega
theorem dread_len {x : List UInt8} {d : Dir.T} (h : Dir.dread x = some d) : d.2.1.length ≤ x.length := by
  have hp := Dir.pairs_len x
  obtain ⟨a, b, q, e⟩ : ∃ a b q, Tx.pairs x = (a, b, q) := ⟨_, _, _, rfl⟩
  rw [Dir.dread_eq e] at h
  rw [e] at hp
  simp only at hp
  have hu := unqt_len b
  split at h
  · split at h
    · split at h
      · cases h; exact hp.2
      · split at h
        · cases h; exact Nat.le_trans hu hp.2
        · cases h
    · cases h; simp
  · cases h
theorem dparse_mem {s : List UInt8} {d : Dir.T} (h : d ∈ Dir.dparse s) : d.2.1.length ≤ s.length := by
  unfold Dir.dparse Dir.dparts at h
  obtain ⟨x, hx, e⟩ := List.mem_filterMap.1 h
  have h1 := dread_len e
  have h2 := Tx.split_elem s x hx
  omega
theorem dparse_count (s : List UInt8) : (Dir.dparse s).length ≤ s.length + 1 := by
  have h1 := Dir.dparts_len (Tx.split s)
  have h2 := Tx.split_count s
  unfold Dir.dparse; omega
def ccN : List UInt8 := [99, 97, 99, 104, 101, 45, 99, 111, 110, 116, 114, 111, 108]
def smN : List UInt8 := [115, 45, 109, 97, 120, 97, 103, 101]
def maN : List UInt8 := [109, 97, 120, 45, 97, 103, 101]
def exN : List UInt8 := [101, 120, 112, 105, 114, 101, 115]
/-- The rules of a message with these fields. -/
def rules (l : List Flds.Fld) : List Dir.T := Dir.dparse (Flds.got ccN l)
theorem rules_len {l : List Flds.Fld} (hl : Flds.total l ≤ 1048576) : (rules l).length ≤ 4194304 := by
  have h1 := dparse_count (Flds.got ccN l)
  have h2 := Rgh.got_short (n := ccN) (by decide) l
  unfold rules; omega
theorem rules_mem {l : List Flds.Fld} (hl : Flds.total l ≤ 1048576) : ∀ d ∈ rules l, d.2.1.length ≤ 1048576 := fun d hd => by
  have h1 := dparse_mem hd
  have h2 := Rgh.got_short (n := ccN) (by decide) l
  omega
theorem sof_bd (n : List UInt8) (l : List Dir.T) : 0 ≤ (Dir.sof n l).1 ∧ (Dir.sof n l).1 ≤ 2147483648 := by
  unfold Dir.sof
  split
  · simp
  · exact Dir.secs_bd _
def RulesEnd (l : List Flds.Fld) (w : World) (e : Ending) (w' : World) : Prop := ∃ v, e = .returned v ∧ Dir.Own w' w.heap.size v (rules l) ∧ Below w.heap.size w w'

set_option maxHeartbeats 1000000 in
theorem spec_rules (v : Value) (B : Nat) (l : List Flds.Fld) (w : World) (h : Flds.Holds w B v l) (hl : Flds.total l ≤ 1048576) :
    Calls Tryz.prog 19 #[v] w (RulesEnd l w) := by
  have hg := Rgh.got_short (n := ccN) (by decide) l
  have HG := Lib.hid (Flds.spec_lget v B l ccN w h (by omega))
  have HP := Lib.hid (fun W => Dir.spec_parse (Flds.got ccN l) W (by omega))
  unfold Flds.GotEnd at HG
  unfold Dir.ParsedS at HP
  obtain ⟨a, cap, rfl, _⟩ := Flds.shape_lget h
  unfold RulesEnd rules
  clear h hl hg
  generalize Flds.got ccN l = g at HG HP ⊢
  unfold ccN at HG
  go_enter Tryz.func19, Tryz.ntmps19
  go_wp2_with (fail)
  go_at_call 35
  refine HG.out.mono ?_
  rintro e w1 ⟨rfl, hb1⟩
  have HB1 := Lib.hid hb1
  clear hb1
  go_wp2_with (fail)
  go_at_call 47
  refine (HP.out _).mono ?_
  rintro e w2 ⟨u, rfl, ho2, hb2⟩
  have HB2 := Lib.hid (Base.then_below HB1.out hb2)
  have HO := Lib.hid (Dir.own_mono ho2 HB1.out.size)
  clear hb2 ho2
  go_wp2
  go_ret
  exact ⟨u, rfl, HO.out, HB2.out⟩
set_option maxHeartbeats 1000000 in
theorem impl_rules (v : Value) (B : Nat) (l : List Flds.Fld) (w : World) (h : Flds.Holds w B v l) (hB : B ≤ w.heap.size) (hl : Flds.total l ≤ 1048576) (hv : Dir.Errs w) :
    Calls Tryz.prog 51 #[v] w (RulesEnd l w) := by
  have hg := Rgh.got_short (n := ccN) (by decide) l
  have HG := Lib.hid (Flds.impl_get v B l ccN w h hB hl)
  have HP := Lib.hid (fun W (hb : Below w.heap.size w W) => Dir.impl_parse (Flds.got ccN l) W (by omega) (Dir.errs_below hv hb))
  unfold Flds.GetEnd at HG
  unfold Dir.Parsed at HP
  have hj : Tx.join (Flds.vals ccN l) = Flds.got ccN l := rfl
  rw [hj] at HG
  obtain ⟨a, cap, rfl, _⟩ := Flds.shape_lget h
  unfold RulesEnd rules
  clear h hl hg hj hv
  generalize Flds.got ccN l = g at HG HP ⊢
  generalize decide (0 < (Flds.vals ccN l).length) = q at HG
  unfold ccN at HG
  go_enter Tryz.func51, Tryz.ntmps51
  go_wp2_with (fail)
  go_at_call 68
  refine HG.out.mono ?_
  rintro e w1 ⟨rfl, hb1⟩
  have HB1 := Lib.hid hb1
  clear hb1
  go_wp2_with (fail)
  go_at_call 82
  refine (HP.out _ HB1.out).mono ?_
  rintro e w2 ⟨u, rfl, ho2, hb2⟩
  have HB2 := Lib.hid (Base.then_below HB1.out hb2)
  have HO := Lib.hid (Dir.own_mono ho2 HB1.out.size)
  clear hb2 ho2
  go_wp2
  go_ret
  exact ⟨u, rfl, HO.out, HB2.out⟩

/-- The guess. -/
noncomputable def guess (l : List Flds.Fld) : Int := max 0 (min 86400 (((Age.din Age.dateN l).1 - (Age.din Rgh.modN l).1).tdiv 10))
/-- How long an answer is fresh. -/
noncomputable def life (c : Int) (l : List Flds.Fld) : Int :=
  if (Dir.sof smN (rules l)).2 = true then (Dir.sof smN (rules l)).1
  else if (Dir.sof maN (rules l)).2 = true then (Dir.sof maN (rules l)).1
  else if 0 < (Flds.vals exN l).length then (if (Age.din exN l).2 = true ∧ (Age.din Age.dateN l).2 = true then max 0 ((Age.din exN l).1 - (Age.din Age.dateN l).1) else 0)
  else if c = 200 ∧ (Age.din Age.dateN l).2 = true ∧ (Age.din Rgh.modN l).2 = true then guess l else 0
def NumEnd (z : Int) (w : World) (e : Ending) (w' : World) : Prop := e = .returned (.int .i64 z) ∧ Below w.heap.size w w'
theorem ret_n {a b : Int} (h : a = b) : Ending.returned (.int .i64 a) = .returned (.int .i64 b) := by rw [h]
end Go.Proofs.YtddpfhcmifnagaaGreatDoor.Lif

/-
  CONTRACT of the model's LifetimeOf; nothing that was there before is changed.
-/
namespace Go.Proofs.YtddpfhcmifnagaaGreatDoor.Lif
open Go Go.RowKit
set_option linter.unusedVariables false
set_option maxRecDepth 1000000

end Go.Proofs.YtddpfhcmifnagaaGreatDoor.Lif

/-
  WHAT A TYPE ASSERTION OF AN INTERFACE VALUE TO A STRUCT TYPE GIVES.
-/
namespace Go.Proofs.YtddpfhcmifnagaaGreatDoor.Tya
open Go Go.RowKit
set_option linter.unusedVariables false
set_option maxRecDepth 1000000
theorem ta_yes {P : Program} {T : TypeId} {fs : Array Field} (hu : P.underlying T = some (.struct fs)) (v : Value) (xT : TypeId) (w : World) : (Instr.typeAssert (.iface T v) xT T true).run P w = .ok (.tuple #[v, .bool true]) w := by
  simp [Instr.typeAssert, run_underlying hu]
theorem ta_no {P : Program} {T t : TypeId} {fs : Array Field} {z : Value} (hu : P.underlying T = some (.struct fs)) (hne : t ≠ T) (hz : (P.info? T).map (·.zero) = some (some z)) (v : Value) (xT : TypeId) (w : World) : (Instr.typeAssert (.iface t v) xT T true).run P w = .ok (.tuple #[z, .bool false]) w := by
  obtain ⟨j, hj, hz2⟩ := Option.map_eq_some_iff.1 hz
  simp [Instr.typeAssert, run_underlying hu, hne, zeroValue, typeInfo, hj, hz2]
theorem ta_nil {P : Program} {T : TypeId} {fs : Array Field} {z : Value} (hu : P.underlying T = some (.struct fs)) (hz : (P.info? T).map (·.zero) = some (some z)) (xT : TypeId) (w : World) : (Instr.typeAssert .nilIface xT T true).run P w = .ok (.tuple #[z, .bool false]) w := by
  obtain ⟨j, hj, hz2⟩ := Option.map_eq_some_iff.1 hz
  simp [Instr.typeAssert, run_underlying hu, zeroValue, typeInfo, hj, hz2]
end Go.Proofs.YtddpfhcmifnagaaGreatDoor.Tya

/-
  CONTRACTS of the program's expiryOf and LifetimeOf; nothing that was there before is changed.
-/
namespace Go.Proofs.YtddpfhcmifnagaaGreatDoor.Lif
open Go Go.RowKit
set_option linter.unusedVariables false
set_option maxRecDepth 1000000

def TB (a : Int) : Prop := 0 ≤ a ∧ a ≤ 4102444799
end Go.Proofs.YtddpfhcmifnagaaGreatDoor.Lif

/-
  CONTRACTS of the program's small questions about a stored answer (serving): isTooOld, isBound, isFresh, isOverByAtMost; and what both sides mean by them. Nothing that was there before is changed.
-/
namespace Go.Proofs.YtddpfhcmifnagaaGreatDoor.Srv
open Go Go.RowKit
set_option linter.unusedVariables false
set_option maxRecDepth 1000000

def mrN : List UInt8 := [109, 117, 115, 116, 45, 114, 101, 118, 97, 108, 105, 100, 97, 116, 101]
def prN : List UInt8 := [112, 114, 111, 120, 121, 45, 114, 101, 118, 97, 108, 105, 100, 97, 116, 101]
def ncN : List UInt8 := [110, 111, 45, 99, 97, 99, 104, 101]
def mfN : List UInt8 := [109, 105, 110, 45, 102, 114, 101, 115, 104]
def msN : List UInt8 := [109, 97, 120, 45, 115, 116, 97, 108, 101]
def ocN : List UInt8 := [111, 110, 108, 121, 45, 105, 102, 45, 99, 97, 99, 104, 101, 100]
def swN : List UInt8 := [115, 116, 97, 108, 101, 45, 119, 104, 105, 108, 101, 45, 114, 101, 118, 97, 108, 105, 100, 97, 116, 101]
def seN : List UInt8 := [115, 116, 97, 108, 101, 45, 105, 102, 45, 101, 114, 114, 111, 114]
abbrev D := Dir.T
def has (n : List UInt8) (L : List D) : Bool := decide (0 ≤ Dir.at1 n L)
/-- One of both sides forbids a stale answer. -/
def bound (G : List D) : Bool := has mrN G || (has prN G || (has Lif.smN G || has ncN G))
/-- The request does not want an answer of this age. -/
def old (A : List D) (a : Int) : Bool := has ncN A || ((Dir.sof Lif.maN A).2 && decide ((Dir.sof Lif.maN A).1 < a))
/-- There is such a rule, and it has as many seconds as the answer is over by. -/
def over (n : List UInt8) (L : List D) (a l : Int) : Bool := (Dir.sof n L).2 && decide (IntKind.i64.wrap (a - l) ≤ (Dir.sof n L).1)
def may (A G : List D) (a l : Int) : Bool := !bound G && (!old A a && (decide (a < l) || over seN G a l))
def sv (u v : Value) (a l : Int) : Value := .agg #[u, v, .int .i64 a, .int .i64 l]
structure Sv (w : World) (B : Nat) (u v : Value) (A G : List D) : Prop where
  hu : Dir.Holds w B u A
  hv : Dir.Holds w B v G
  hB : B ≤ w.heap.size
  la : A.length ≤ 4194304
  lg : G.length ≤ 4194304
  ma : ∀ d ∈ A, d.2.1.length ≤ 1048576
  mg : ∀ d ∈ G, d.2.1.length ≤ 1048576
theorem sv_below {w w' : World} {B : Nat} {u v : Value} {A G : List D} (h : Sv w B u v A G) (hb : Below w.heap.size w w') : Sv w' B u v A G :=
  ⟨Dir.holds_below h.hu (hb.mono h.hB), Dir.holds_below h.hv (hb.mono h.hB), Nat.le_trans h.hB hb.size, h.la, h.lg, h.ma, h.mg⟩
def BoolEnd (b : Bool) (w : World) (e : Ending) (w' : World) : Prop := e = .returned (.bool b) ∧ Below w.heap.size w w'
theorem ret_b {a b : Bool} (h : a = b) : Ending.returned (.bool a) = .returned (.bool b) := by rw [h]
theorem kept4 {w w1 : World} {T : TypeId} {a b c d : Value} (hb : Below (w.alloc (.cells #[a, b, c, d] T)).heap.size (w.alloc (.cells #[a, b, c, d] T)) w1) :
    (w1.cell? ⟨w.heap.size, 0, none⟩ = some a ∧ w1.cell? ⟨w.heap.size, 1, none⟩ = some b ∧ w1.cell? ⟨w.heap.size, 2, none⟩ = some c ∧ w1.cell? ⟨w.heap.size, 3, none⟩ = some d) ∧ Below w.heap.size w w1 := by
  have h := Kept.one hb
  exact ⟨⟨h.1 0 _ rfl, h.1 1 _ rfl, h.1 2 _ rfl, h.1 3 _ rfl⟩, Kept.below_in hb⟩
theorem sec_a {w : World} {B : Nat} {u v : Value} {A G : List D} (h : Sv w B u v A G) (n : List UInt8) (W : World) (hb : Below w.heap.size w W) : Calls Tryz.prog 52 #[u, .string ⟨n.toArray⟩] W fun e w' => e = .returned (.tuple #[.int .i64 (Dir.sof n A).1, .bool (Dir.sof n A).2]) ∧ Below W.heap.size W w' :=
  Dir.impl_sec u B A n W (sv_below h hb).hu (sv_below h hb).hB h.la h.ma
theorem sec_g {w : World} {B : Nat} {u v : Value} {A G : List D} (h : Sv w B u v A G) (n : List UInt8) (W : World) (hb : Below w.heap.size w W) : Calls Tryz.prog 52 #[v, .string ⟨n.toArray⟩] W fun e w' => e = .returned (.tuple #[.int .i64 (Dir.sof n G).1, .bool (Dir.sof n G).2]) ∧ Below W.heap.size W w' :=
  Dir.impl_sec v B G n W (sv_below h hb).hv (sv_below h hb).hB h.lg h.mg
theorem has_a {w : World} {B : Nat} {u v : Value} {A G : List D} (h : Sv w B u v A G) (n : List UInt8) (W : World) (hb : Below w.heap.size w W) : Calls Tryz.prog 33 #[u, .string ⟨n.toArray⟩] W fun e w' => e = .returned (.bool (has n A)) ∧ Below W.heap.size W w' :=
  Dir.impl_has u B A n W (sv_below h hb).hu h.la
theorem has_g {w : World} {B : Nat} {u v : Value} {A G : List D} (h : Sv w B u v A G) (n : List UInt8) (W : World) (hb : Below w.heap.size w W) : Calls Tryz.prog 33 #[v, .string ⟨n.toArray⟩] W fun e w' => e = .returned (.bool (has n G)) ∧ Below W.heap.size W w' :=
  Dir.impl_has v B G n W (sv_below h hb).hv h.lg

theorem impl_fresh (u v : Value) (a l : Int) (w : World) : Calls Tryz.prog 27 #[sv u v a l] w (BoolEnd (decide (a < l)) w) := by
  have HB0 : Hid (Below w.heap.size w (w.alloc (.cells #[u, v, .int .i64 a, .int .i64 l] 52))) := Lib.hid ((Below.refl _ _).alloc (Nat.le_refl _) _)
  unfold sv
  go_enter Tryz.func27, Tryz.ntmps27
  go_wp2
  go_ret
  exact ⟨rfl, HB0.out⟩

set_option maxHeartbeats 2000000 in
theorem impl_old (u v : Value) (A G : List D) (a l : Int) (B : Nat) (w : World) (h : Sv w B u v A G) : Calls Tryz.prog 26 #[sv u v a l] w (BoolEnd (old A a) w) := by
  have HB0 : Hid (Below w.heap.size w (w.alloc (.cells #[u, v, .int .i64 a, .int .i64 l] 52))) := Lib.hid ((Below.refl _ _).alloc (Nat.le_refl _) _)
  have HK := Lib.hid (fun w1 => kept4 (w := w) (w1 := w1) (T := 52) (a := u) (b := v) (c := .int .i64 a) (d := .int .i64 l))
  have HS := Lib.hid (sec_a h Lif.maN)
  have HH := Lib.hid (has_a h ncN)
  have HE : Hid (old A a = (has ncN A || ((Dir.sof Lif.maN A).2 && decide ((Dir.sof Lif.maN A).1 < a)))) := Lib.hid rfl
  generalize old A a = z at HE ⊢
  generalize Dir.sof Lif.maN A = s at HS HE
  generalize has ncN A = nc at HH HE
  obtain ⟨s, k⟩ := s
  simp only at HS HE
  unfold Lif.maN at HS
  unfold ncN at HH
  unfold sv BoolEnd
  clear h
  go_enter Tryz.func26, Tryz.ntmps26
  go_wp2_with (fail)
  go_at_call 52
  refine (HS.out _ HB0.out).mono ?_
  rintro e w1 ⟨rfl, hb1⟩
  have HB1 := Lib.hid hb1
  obtain ⟨⟨x0, x1, x2, x3⟩, hbw⟩ := HK.out _ hb1
  have HBW := Lib.hid hbw
  clear hb1 hbw
  go_wp2_with (fail)
  go_at_call 33
  refine (HH.out _ HBW.out).mono ?_
  rintro e w2 ⟨rfl, hb2⟩
  obtain ⟨⟨x0', x1', x2', x3'⟩, hbw2⟩ := HK.out _ (Base.then_below HB1.out hb2)
  have HBW2 := Lib.hid hbw2
  clear hb2 hbw2 x0 x1 x2 x3
  cases nc with
  | true =>
    go_wp2
    go_ret
    exact ⟨ret_b (by rw [HE.out]; rfl), HBW2.out⟩
  | false =>
    cases k with
    | false =>
      go_wp2
      go_ret
      exact ⟨ret_b (by rw [HE.out]; rfl), HBW2.out⟩
    | true =>
      go_wp2
      all_goals go_ret
      all_goals exact ⟨ret_b (by rw [HE.out]; simp), HBW2.out⟩

set_option maxHeartbeats 2000000 in
theorem impl_over (u v x : Value) (A G L : List D) (n : List UInt8) (a l : Int) (B : Nat) (w : World) (h : Sv w B u v A G) (hx : (x = u ∧ L = A) ∨ (x = v ∧ L = G)) : Calls Tryz.prog 28 #[sv u v a l, x, .string ⟨n.toArray⟩] w (BoolEnd (over n L a l) w) := by
  have HB0 : Hid (Below w.heap.size w (w.alloc (.cells #[u, v, .int .i64 a, .int .i64 l] 52))) := Lib.hid ((Below.refl _ _).alloc (Nat.le_refl _) _)
  have HK := Lib.hid (fun w1 => kept4 (w := w) (w1 := w1) (T := 52) (a := u) (b := v) (c := .int .i64 a) (d := .int .i64 l))
  have HS : Hid (∀ W, Below w.heap.size w W → Calls Tryz.prog 52 #[x, .string ⟨n.toArray⟩] W fun e w' => e = .returned (.tuple #[.int .i64 (Dir.sof n L).1, .bool (Dir.sof n L).2]) ∧ Below W.heap.size W w') := Lib.hid (by
    rcases hx with ⟨rfl, rfl⟩ | ⟨rfl, rfl⟩
    · exact sec_a h n
    · exact sec_g h n)
  have HE : Hid (over n L a l = ((Dir.sof n L).2 && decide (IntKind.i64.wrap (a - l) ≤ (Dir.sof n L).1))) := Lib.hid rfl
  generalize over n L a l = z at HE ⊢
  generalize Dir.sof n L = s at HS HE
  obtain ⟨s, k⟩ := s
  simp only at HS HE
  unfold sv BoolEnd
  clear h hx
  go_enter Tryz.func28, Tryz.ntmps28
  go_wp2_with (fail)
  go_at_call 52
  refine (HS.out _ HB0.out).mono ?_
  rintro e w1 ⟨rfl, hb1⟩
  obtain ⟨⟨x0, x1, x2, x3⟩, hbw⟩ := HK.out _ hb1
  have HBW := Lib.hid hbw
  clear hb1 hbw
  cases k with
  | false =>
    go_wp2
    go_ret
    exact ⟨ret_b (by rw [HE.out]; rfl), HBW.out⟩
  | true =>
    have HD : Hid (z = decide (IntKind.i64.wrap (a - l) ≤ s)) := Lib.hid (by rw [HE.out]; rfl)
    clear HE
    go_wp2
    all_goals go_ret
    all_goals exact ⟨ret_b (by rw [HD.out, show IntKind.i64.wrap (a - l) = wrap64 (a - l) from IntWalk.i64_left _]), HBW.out⟩

set_option maxHeartbeats 2000000 in
theorem impl_bound (u v : Value) (A G : List D) (a l : Int) (B : Nat) (w : World) (h : Sv w B u v A G) : Calls Tryz.prog 25 #[sv u v a l] w (BoolEnd (bound G) w) := by
  have HB0 : Hid (Below w.heap.size w (w.alloc (.cells #[u, v, .int .i64 a, .int .i64 l] 52))) := Lib.hid ((Below.refl _ _).alloc (Nat.le_refl _) _)
  have HK := Lib.hid (fun w1 => kept4 (w := w) (w1 := w1) (T := 52) (a := u) (b := v) (c := .int .i64 a) (d := .int .i64 l))
  have HS4 := Lib.hid (fun W => kept4 (w := w.alloc (.cells #[u, v, .int .i64 a, .int .i64 l] 52)) (w1 := W) (T := 9) (a := .string ⟨mrN.toArray⟩) (b := .string ⟨prN.toArray⟩) (c := .string ⟨Lif.smN.toArray⟩) (d := .string ⟨ncN.toArray⟩))
  have HH0 := Lib.hid (has_g h mrN)
  have HH1 := Lib.hid (has_g h prN)
  have HH2 := Lib.hid (has_g h Lif.smN)
  have HH3 := Lib.hid (has_g h ncN)
  have HE : Hid (bound G = (has mrN G || (has prN G || (has Lif.smN G || has ncN G)))) := Lib.hid rfl
  have HZ : Hid ((w.alloc (.cells #[u, v, .int .i64 a, .int .i64 l] 52)).heap.size = w.heap.size + 1) := Lib.hid (by simp)
  rw [HZ.out] at HS4
  generalize bound G = z at HE ⊢
  generalize has mrN G = b0 at HH0 HE
  generalize has prN G = b1 at HH1 HE
  generalize has Lif.smN G = b2 at HH2 HE
  generalize has ncN G = b3 at HH3 HE
  unfold mrN at HH0
  unfold prN at HH1
  unfold Lif.smN at HH2
  unfold ncN at HH3
  unfold mrN prN Lif.smN ncN at HS4
  unfold sv BoolEnd
  clear h
  go_enter Tryz.func25, Tryz.ntmps25
  go_wp2
  go_loopw [7] (fun i wr => ∃ j : Nat, j ≤ 4 ∧ i = .int .i64 (j : Int) ∧ (1 ≤ j → b0 = false) ∧ (2 ≤ j → b1 = false) ∧ (3 ≤ j → b2 = false) ∧ (4 ≤ j → b3 = false) ∧ Hid (Below ((w.alloc (.cells #[u, v, .int .i64 a, .int .i64 l] 52)).alloc (.cells #[.string ⟨#[109, 117, 115, 116, 45, 114, 101, 118, 97, 108, 105, 100, 97, 116, 101]⟩, .string ⟨#[112, 114, 111, 120, 121, 45, 114, 101, 118, 97, 108, 105, 100, 97, 116, 101]⟩, .string ⟨#[115, 45, 109, 97, 120, 97, 103, 101]⟩, .string ⟨#[110, 111, 45, 99, 97, 99, 104, 101]⟩] 9)).heap.size ((w.alloc (.cells #[u, v, .int .i64 a, .int .i64 l] 52)).alloc (.cells #[.string ⟨#[109, 117, 115, 116, 45, 114, 101, 118, 97, 108, 105, 100, 97, 116, 101]⟩, .string ⟨#[112, 114, 111, 120, 121, 45, 114, 101, 118, 97, 108, 105, 100, 97, 116, 101]⟩, .string ⟨#[115, 45, 109, 97, 120, 97, 103, 101]⟩, .string ⟨#[110, 111, 45, 99, 97, 99, 104, 101]⟩] 9)) wr)) (fun i _ => 4 - (intOf i).toNat)
  case atStart => exact ⟨0, by omega, rfl, fun h => absurd h (by omega), fun h => absurd h (by omega), fun h => absurd h (by omega), fun h => absurd h (by omega), Lib.hid (Below.refl _ _)⟩
  case round =>
    obtain ⟨j, hj, rfl, hk0, hk1, hk2, hk3, HBR⟩ := hrel
    have HK0 := Lib.hid hk0
    have HK1 := Lib.hid hk1
    have HK2 := Lib.hid hk2
    have HK3 := Lib.hid hk3
    obtain ⟨⟨y0, y1, y2, y3⟩, hb1⟩ := HS4.out _ HBR.out
    rw [← HZ.out] at hb1
    obtain ⟨⟨x0, x1, x2, x3⟩, hbw⟩ := HK.out _ hb1
    have HBW := Lib.hid hbw
    clear hk0 hk1 hk2 hk3 hb1 hbw
    have hjc : j = 0 ∨ j = 1 ∨ j = 2 ∨ j = 3 ∨ j = 4 := by omega
    rcases hjc with rfl | rfl | rfl | rfl | rfl
    · go_wp2_with (fail)
      go_at_call 33
      refine (HH0.out _ HBW.out).mono ?_
      rintro e w2 ⟨rfl, hb2⟩
      have HB2 := Lib.hid (Base.then_below HBW.out hb2)
      have HR2 := Lib.hid (Base.then_below HBR.out hb2)
      clear hb2
      cases hq : b0 with
      | true =>
        go_wp2
        go_ret
        exact ⟨ret_b (by rw [HE.out, hq]; simp), HB2.out⟩
      | false =>
        have HQ := Lib.hid hq
        clear hq
        go_wp2
        go_roundw
        case rel => exact ⟨1, by omega, by rfl, fun _ => HQ.out, fun h => absurd h (by omega), fun h => absurd h (by omega), fun h => absurd h (by omega), HR2⟩
        case measure => decide
    · go_wp2_with (fail)
      go_at_call 33
      refine (HH1.out _ HBW.out).mono ?_
      rintro e w2 ⟨rfl, hb2⟩
      have HB2 := Lib.hid (Base.then_below HBW.out hb2)
      have HR2 := Lib.hid (Base.then_below HBR.out hb2)
      clear hb2
      cases hq : b1 with
      | true =>
        go_wp2
        go_ret
        exact ⟨ret_b (by rw [HE.out, hq]; simp), HB2.out⟩
      | false =>
        have HQ := Lib.hid hq
        clear hq
        go_wp2
        go_roundw
        case rel => exact ⟨2, by omega, by rfl, fun _ => HK0.out (by omega), fun _ => HQ.out, fun h => absurd h (by omega), fun h => absurd h (by omega), HR2⟩
        case measure => decide
    · go_wp2_with (fail)
      go_at_call 33
      refine (HH2.out _ HBW.out).mono ?_
      rintro e w2 ⟨rfl, hb2⟩
      have HB2 := Lib.hid (Base.then_below HBW.out hb2)
      have HR2 := Lib.hid (Base.then_below HBR.out hb2)
      clear hb2
      cases hq : b2 with
      | true =>
        go_wp2
        go_ret
        exact ⟨ret_b (by rw [HE.out, hq]; simp), HB2.out⟩
      | false =>
        have HQ := Lib.hid hq
        clear hq
        go_wp2
        go_roundw
        case rel => exact ⟨3, by omega, by rfl, fun _ => HK0.out (by omega), fun _ => HK1.out (by omega), fun _ => HQ.out, fun h => absurd h (by omega), HR2⟩
        case measure => decide
    · go_wp2_with (fail)
      go_at_call 33
      refine (HH3.out _ HBW.out).mono ?_
      rintro e w2 ⟨rfl, hb2⟩
      have HB2 := Lib.hid (Base.then_below HBW.out hb2)
      have HR2 := Lib.hid (Base.then_below HBR.out hb2)
      clear hb2
      cases hq : b3 with
      | true =>
        go_wp2
        go_ret
        exact ⟨ret_b (by rw [HE.out, hq]; simp), HB2.out⟩
      | false =>
        have HQ := Lib.hid hq
        clear hq
        go_wp2
        go_roundw
        case rel => exact ⟨4, by omega, by rfl, fun _ => HK0.out (by omega), fun _ => HK1.out (by omega), fun _ => HK2.out (by omega), fun _ => HQ.out, HR2⟩
        case measure => decide
    · have h0 := HK0.out (by omega)
      have h1 := HK1.out (by omega)
      have h2 := HK2.out (by omega)
      have h3 := HK3.out (by omega)
      have HF : Hid (z = false) := Lib.hid (by rw [HE.out, h0, h1, h2, h3]; rfl)
      clear h0 h1 h2 h3 HE
      go_wp2
      go_ret
      exact ⟨ret_b HF.out.symm, HBW.out⟩
end Go.Proofs.YtddpfhcmifnagaaGreatDoor.Srv
