/-
  CONTRACTS AND PLAIN FACTS, several texts in one; each says in its own words what it proves.
-/
import Derived.Test.YtjeihicjfgimdaaGreatDoorPartAC
import Derived.Test.YtjeihicjfgimdaaGreatDoorPartAI
import Derived.Test.YtjeihicjfgimdaaGreatDoorPartAK
import Derived.Test.YtjeihicjfgimdaaGreatDoorPartAL
import Derived.Test.YtjeihicjfgimdaaGreatDoorPartN
import Derived.Test.YtjeihicjfgimdaaGreatDoorPartA
import Derived.Stop.Asserts
import Derived.Test.YtjeihicjfgimdaaGreatDoorPartD
import Derived.RegionTactic
import Derived.Deep.RegionWith
import Derived.IntWalk
set_option linter.unusedSimpArgs false
set_option linter.unusedVariables false

/-
  CONTRACTS of both sides' way to the rules of a message (the program's rulesOf, the model's l19Rules) and of the model's LifetimeOf; nothing that was there before is changed.
-/
namespace Go.Proofs.YtjeihicjfgimdaaGreatDoor.Lif
open Go Go.RowKit
set_option linter.unusedVariables false
set_option maxRecDepth 1000000

theorem unq_len : ∀ (n : Nat) (l : List UInt8), l.length ≤ n → (Tx.unq l).1.length ≤ l.length
  | 0, l, h => by rw [List.length_eq_zero_iff.1 (by omega : l.length = 0)]; simp [Tx.unq]
  | n + 1, l, h => by
    match l, h with
    | [], _ => simp [Tx.unq]
    | [c], _ => unfold Tx.unq; split <;> simp
    | c :: d :: r, h =>
      simp at h
      have h1 := unq_len n r (by omega)
      have h2 := unq_len n (d :: r) (by simp; omega)
      unfold Tx.unq
      split
      · simp
      · split
        · simp; omega
        · simp at h2 ⊢; omega
theorem unqt_len (l : List UInt8) : (Tx.unqText l).length ≤ l.length := by
  unfold Tx.unqText
  have := unq_len _ (l.drop 1) (Nat.le_refl _)
  simp at this ⊢; omega
theorem dread_len {x : List UInt8} {d : Dir.T} (h : Dir.dread x = some d) : d.2.1.length ≤ x.length := by
  have hp := Dir.pairs_len x
  obtain ⟨a, b, q, e⟩ : ∃ a b q, Tx.pairs x = (a, b, q) := ⟨_, _, _, rfl⟩
  rw [Dir.dread_eq e] at h
  rw [e] at hp
  simp only at hp
  have hu := unqt_len b
  split at h
  · split at h
    · split at h
      · cases h; exact hp.2
      · split at h
        · cases h; exact Nat.le_trans hu hp.2
        · cases h
    · cases h; simp
  · cases h
theorem dparse_mem {s : List UInt8} {d : Dir.T} (h : d ∈ Dir.dparse s) : d.2.1.length ≤ s.length := by
  unfold Dir.dparse Dir.dparts at h
  obtain ⟨x, hx, e⟩ := List.mem_filterMap.1 h
  have h1 := dread_len e
  have h2 := Tx.split_elem s x hx
  omega
theorem dparse_count (s : List UInt8) : (Dir.dparse s).length ≤ s.length + 1 := by
  have h1 := Dir.dparts_len (Tx.split s)
  have h2 := Tx.split_count s
  unfold Dir.dparse; omega
def ccN : List UInt8 := [99, 97, 99, 104, 101, 45, 99, 111, 110, 116, 114, 111, 108]
def smN : List UInt8 := [115, 45, 109, 97, 120, 97, 103, 101]
def maN : List UInt8 := [109, 97, 120, 45, 97, 103, 101]
def exN : List UInt8 := [101, 120, 112, 105, 114, 101, 115]
/-- The rules of a message with these fields. -/
def rules (l : List Flds.Fld) : List Dir.T := Dir.dparse (Flds.got ccN l)
theorem rules_len {l : List Flds.Fld} (hl : Flds.total l ≤ 1048576) : (rules l).length ≤ 4194304 := by
  have h1 := dparse_count (Flds.got ccN l)
  have h2 := Rgh.got_short (n := ccN) (by decide) l
  unfold rules; omega
theorem rules_mem {l : List Flds.Fld} (hl : Flds.total l ≤ 1048576) : ∀ d ∈ rules l, d.2.1.length ≤ 1048576 := fun d hd => by
  have h1 := dparse_mem hd
  have h2 := Rgh.got_short (n := ccN) (by decide) l
  omega
theorem sof_bd (n : List UInt8) (l : List Dir.T) : 0 ≤ (Dir.sof n l).1 ∧ (Dir.sof n l).1 ≤ 2147483648 := by
  unfold Dir.sof
  split
  · simp
  · exact Dir.secs_bd _
def RulesEnd (l : List Flds.Fld) (w : World) (e : Ending) (w' : World) : Prop := ∃ v, e = .returned v ∧ Dir.Own w' w.heap.size v (rules l) ∧ Below w.heap.size w w'

set_option maxHeartbeats 1000000 in
theorem spec_rules (v : Value) (B : Nat) (l : List Flds.Fld) (w : World) (h : Flds.Holds w B v l) (hl : Flds.total l ≤ 1048576) :
    Calls Tryz.prog 27 #[v] w (RulesEnd l w) := by
  have hg := Rgh.got_short (n := ccN) (by decide) l
  have HG := Lib.hid (Flds.spec_lget v B l ccN w h (by omega))
  have HP := Lib.hid (fun W => Dir.spec_parse (Flds.got ccN l) W (by omega))
  unfold Flds.GotEnd at HG
  unfold Dir.ParsedS at HP
  obtain ⟨a, cap, rfl, _⟩ := Flds.shape_lget h
  unfold RulesEnd rules
  clear h hl hg
  generalize Flds.got ccN l = g at HG HP ⊢
  unfold ccN at HG
  go_enter Tryz.func27, Tryz.ntmps27
  go_wp2_with (fail)
  go_at_call 61
  refine HG.out.mono ?_
  rintro e w1 ⟨rfl, hb1⟩
  have HB1 := Lib.hid hb1
  clear hb1
  go_wp2_with (fail)
  go_at_call 60
  refine (HP.out _).mono ?_
  rintro e w2 ⟨u, rfl, ho2, hb2⟩
  have HB2 := Lib.hid (Base.then_below HB1.out hb2)
  have HO := Lib.hid (Dir.own_mono ho2 HB1.out.size)
  clear hb2 ho2
  go_wp2
  go_ret
  exact ⟨u, rfl, HO.out, HB2.out⟩
set_option maxHeartbeats 1000000 in
theorem impl_rules (v : Value) (B : Nat) (l : List Flds.Fld) (w : World) (h : Flds.Holds w B v l) (hB : B ≤ w.heap.size) (hl : Flds.total l ≤ 1048576) (hv : Dir.Errs w) :
    Calls Tryz.prog 37 #[v] w (RulesEnd l w) := by
  have hg := Rgh.got_short (n := ccN) (by decide) l
  have HG := Lib.hid (Flds.impl_get v B l ccN w h hB hl)
  have HP := Lib.hid (fun W (hb : Below w.heap.size w W) => Dir.impl_parse (Flds.got ccN l) W (by omega) (Dir.errs_below hv hb))
  unfold Flds.GetEnd at HG
  unfold Dir.Parsed at HP
  have hj : Tx.join (Flds.vals ccN l) = Flds.got ccN l := rfl
  rw [hj] at HG
  obtain ⟨a, cap, rfl, _⟩ := Flds.shape_lget h
  unfold RulesEnd rules
  clear h hl hg hj hv
  generalize Flds.got ccN l = g at HG HP ⊢
  generalize decide (0 < (Flds.vals ccN l).length) = q at HG
  unfold ccN at HG
  go_enter Tryz.func37, Tryz.ntmps37
  go_wp2_with (fail)
  go_at_call 69
  refine HG.out.mono ?_
  rintro e w1 ⟨rfl, hb1⟩
  have HB1 := Lib.hid hb1
  clear hb1
  go_wp2_with (fail)
  go_at_call 71
  refine (HP.out _ HB1.out).mono ?_
  rintro e w2 ⟨u, rfl, ho2, hb2⟩
  have HB2 := Lib.hid (Base.then_below HB1.out hb2)
  have HO := Lib.hid (Dir.own_mono ho2 HB1.out.size)
  clear hb2 ho2
  go_wp2
  go_ret
  exact ⟨u, rfl, HO.out, HB2.out⟩

/-- The guess. -/
noncomputable def guess (l : List Flds.Fld) : Int := max 0 (min 86400 (((Age.din Age.dateN l).1 - (Age.din Rgh.modN l).1).tdiv 10))
/-- How long an answer is fresh. -/
noncomputable def life (c : Int) (l : List Flds.Fld) : Int :=
  if (Dir.sof smN (rules l)).2 = true then (Dir.sof smN (rules l)).1
  else if (Dir.sof maN (rules l)).2 = true then (Dir.sof maN (rules l)).1
  else if 0 < (Flds.vals exN l).length then (if (Age.din exN l).2 = true ∧ (Age.din Age.dateN l).2 = true then max 0 ((Age.din exN l).1 - (Age.din Age.dateN l).1) else 0)
  else if c = 200 ∧ (Age.din Age.dateN l).2 = true ∧ (Age.din Rgh.modN l).2 = true then guess l else 0
def NumEnd (z : Int) (w : World) (e : Ending) (w' : World) : Prop := e = .returned (.int .i64 z) ∧ Below w.heap.size w w'
theorem ret_n {a b : Int} (h : a = b) : Ending.returned (.int .i64 a) = .returned (.int .i64 b) := by rw [h]
end Go.Proofs.YtjeihicjfgimdaaGreatDoor.Lif

/-
  CONTRACT of the model's LifetimeOf; nothing that was there before is changed.
-/
namespace Go.Proofs.YtjeihicjfgimdaaGreatDoor.Lif
open Go Go.RowKit
set_option linter.unusedVariables false
set_option maxRecDepth 1000000

end Go.Proofs.YtjeihicjfgimdaaGreatDoor.Lif

/-
  WHAT A TYPE ASSERTION OF AN INTERFACE VALUE TO A STRUCT TYPE GIVES.
-/
namespace Go.Proofs.YtjeihicjfgimdaaGreatDoor.Tya
open Go Go.RowKit
set_option linter.unusedVariables false
set_option maxRecDepth 1000000
theorem ta_yes {P : Program} {T : TypeId} {fs : Array Field} (hu : P.underlying T = some (.struct fs)) (v : Value) (xT : TypeId) (w : World) : (Instr.typeAssert (.iface T v) xT T true).run P w = .ok (.tuple #[v, .bool true]) w := by
  simp [Instr.typeAssert, run_underlying hu]
theorem ta_no {P : Program} {T t : TypeId} {fs : Array Field} {z : Value} (hu : P.underlying T = some (.struct fs)) (hne : t ≠ T) (hz : (P.info? T).map (·.zero) = some (some z)) (v : Value) (xT : TypeId) (w : World) : (Instr.typeAssert (.iface t v) xT T true).run P w = .ok (.tuple #[z, .bool false]) w := by
  obtain ⟨j, hj, hz2⟩ := Option.map_eq_some_iff.1 hz
  simp [Instr.typeAssert, run_underlying hu, hne, zeroValue, typeInfo, hj, hz2]
theorem ta_nil {P : Program} {T : TypeId} {fs : Array Field} {z : Value} (hu : P.underlying T = some (.struct fs)) (hz : (P.info? T).map (·.zero) = some (some z)) (xT : TypeId) (w : World) : (Instr.typeAssert .nilIface xT T true).run P w = .ok (.tuple #[z, .bool false]) w := by
  obtain ⟨j, hj, hz2⟩ := Option.map_eq_some_iff.1 hz
  simp [Instr.typeAssert, run_underlying hu, zeroValue, typeInfo, hj, hz2]
end Go.Proofs.YtjeihicjfgimdaaGreatDoor.Tya

/-
  CONTRACTS of the program's expiryOf and LifetimeOf; nothing that was there before is changed.
-/
namespace Go.Proofs.YtjeihicjfgimdaaGreatDoor.Lif
open Go Go.RowKit
set_option linter.unusedVariables false
set_option maxRecDepth 1000000

def TB (a : Int) : Prop := 0 ≤ a ∧ a ≤ 4102444799
end Go.Proofs.YtjeihicjfgimdaaGreatDoor.Lif

/-
  CONTRACTS of the program's small questions about a stored answer (serving): isTooOld, isBound, isFresh, isOverByAtMost; and what both sides mean by them. Nothing that was there before is changed.
-/
namespace Go.Proofs.YtjeihicjfgimdaaGreatDoor.Srv
open Go Go.RowKit
set_option linter.unusedVariables false
set_option maxRecDepth 1000000

def mrN : List UInt8 := [109, 117, 115, 116, 45, 114, 101, 118, 97, 108, 105, 100, 97, 116, 101]
def prN : List UInt8 := [112, 114, 111, 120, 121, 45, 114, 101, 118, 97, 108, 105, 100, 97, 116, 101]
def ncN : List UInt8 := [110, 111, 45, 99, 97, 99, 104, 101]
def mfN : List UInt8 := [109, 105, 110, 45, 102, 114, 101, 115, 104]
def msN : List UInt8 := [109, 97, 120, 45, 115, 116, 97, 108, 101]
def ocN : List UInt8 := [111, 110, 108, 121, 45, 105, 102, 45, 99, 97, 99, 104, 101, 100]
def swN : List UInt8 := [115, 116, 97, 108, 101, 45, 119, 104, 105, 108, 101, 45, 114, 101, 118, 97, 108, 105, 100, 97, 116, 101]
def seN : List UInt8 := [115, 116, 97, 108, 101, 45, 105, 102, 45, 101, 114, 114, 111, 114]
abbrev D := Dir.T
def has (n : List UInt8) (L : List D) : Bool := decide (0 ≤ Dir.at1 n L)
/-- One of both sides forbids a stale answer. -/
def bound (G : List D) : Bool := has mrN G || (has prN G || (has Lif.smN G || has ncN G))
/-- The request does not want an answer of this age. -/
def old (A : List D) (a : Int) : Bool := has ncN A || ((Dir.sof Lif.maN A).2 && decide ((Dir.sof Lif.maN A).1 < a))
/-- There is such a rule, and it has as many seconds as the answer is over by. -/
def over (n : List UInt8) (L : List D) (a l : Int) : Bool := (Dir.sof n L).2 && decide (IntKind.i64.wrap (a - l) ≤ (Dir.sof n L).1)
def may (A G : List D) (a l : Int) : Bool := !bound G && (!old A a && (decide (a < l) || over seN G a l))
def sv (u v : Value) (a l : Int) : Value := .agg #[u, v, .int .i64 a, .int .i64 l]
structure Sv (w : World) (B : Nat) (u v : Value) (A G : List D) : Prop where
  hu : Dir.Holds w B u A
  hv : Dir.Holds w B v G
  hB : B ≤ w.heap.size
  la : A.length ≤ 4194304
  lg : G.length ≤ 4194304
  ma : ∀ d ∈ A, d.2.1.length ≤ 1048576
  mg : ∀ d ∈ G, d.2.1.length ≤ 1048576
theorem sv_below {w w' : World} {B : Nat} {u v : Value} {A G : List D} (h : Sv w B u v A G) (hb : Below w.heap.size w w') : Sv w' B u v A G :=
  ⟨Dir.holds_below h.hu (hb.mono h.hB), Dir.holds_below h.hv (hb.mono h.hB), Nat.le_trans h.hB hb.size, h.la, h.lg, h.ma, h.mg⟩
def BoolEnd (b : Bool) (w : World) (e : Ending) (w' : World) : Prop := e = .returned (.bool b) ∧ Below w.heap.size w w'
theorem ret_b {a b : Bool} (h : a = b) : Ending.returned (.bool a) = .returned (.bool b) := by rw [h]
theorem kept4 {w w1 : World} {T : TypeId} {a b c d : Value} (hb : Below (w.alloc (.cells #[a, b, c, d] T)).heap.size (w.alloc (.cells #[a, b, c, d] T)) w1) :
    (w1.cell? ⟨w.heap.size, 0, none⟩ = some a ∧ w1.cell? ⟨w.heap.size, 1, none⟩ = some b ∧ w1.cell? ⟨w.heap.size, 2, none⟩ = some c ∧ w1.cell? ⟨w.heap.size, 3, none⟩ = some d) ∧ Below w.heap.size w w1 := by
  have h := Kept.one hb
  exact ⟨⟨h.1 0 _ rfl, h.1 1 _ rfl, h.1 2 _ rfl, h.1 3 _ rfl⟩, Kept.below_in hb⟩
theorem sec_a {w : World} {B : Nat} {u v : Value} {A G : List D} (h : Sv w B u v A G) (n : List UInt8) (W : World) (hb : Below w.heap.size w W) : Calls Tryz.prog 38 #[u, .string ⟨n.toArray⟩] W fun e w' => e = .returned (.tuple #[.int .i64 (Dir.sof n A).1, .bool (Dir.sof n A).2]) ∧ Below W.heap.size W w' :=
  Dir.impl_sec u B A n W (sv_below h hb).hu (sv_below h hb).hB h.la h.ma
theorem sec_g {w : World} {B : Nat} {u v : Value} {A G : List D} (h : Sv w B u v A G) (n : List UInt8) (W : World) (hb : Below w.heap.size w W) : Calls Tryz.prog 38 #[v, .string ⟨n.toArray⟩] W fun e w' => e = .returned (.tuple #[.int .i64 (Dir.sof n G).1, .bool (Dir.sof n G).2]) ∧ Below W.heap.size W w' :=
  Dir.impl_sec v B G n W (sv_below h hb).hv (sv_below h hb).hB h.lg h.mg
theorem has_a {w : World} {B : Nat} {u v : Value} {A G : List D} (h : Sv w B u v A G) (n : List UInt8) (W : World) (hb : Below w.heap.size w W) : Calls Tryz.prog 39 #[u, .string ⟨n.toArray⟩] W fun e w' => e = .returned (.bool (has n A)) ∧ Below W.heap.size W w' :=
  Dir.impl_has u B A n W (sv_below h hb).hu h.la
theorem has_g {w : World} {B : Nat} {u v : Value} {A G : List D} (h : Sv w B u v A G) (n : List UInt8) (W : World) (hb : Below w.heap.size w W) : Calls Tryz.prog 39 #[v, .string ⟨n.toArray⟩] W fun e w' => e = .returned (.bool (has n G)) ∧ Below W.heap.size W w' :=
  Dir.impl_has v B G n W (sv_below h hb).hv h.lg

end Go.Proofs.YtjeihicjfgimdaaGreatDoor.Srv

/-
  CONTRACTS of the program's servingOf and MayUseOnError; nothing that was there before is changed.
-/
namespace Go.Proofs.YtjeihicjfgimdaaGreatDoor.Srv
open Go Go.RowKit
set_option linter.unusedVariables false
set_option maxRecDepth 1000000

def ServEnd (l m : List Flds.Fld) (a f : Int) (w : World) (e : Ending) (w' : World) : Prop := ∃ p q, e = .returned (sv p q a f) ∧ Dir.Own w' w.heap.size p (Lif.rules l) ∧ Dir.Own w' w.heap.size q (Lif.rules m) ∧ Below w.heap.size w w'
theorem serv_sv {l m : List Flds.Fld} {B : Nat} {p q : Value} {w : World} (h : Dir.Own w B p (Lif.rules l)) (h2 : Dir.Own w B q (Lif.rules m)) (hl : Flds.total l ≤ 1048576) (hm : Flds.total m ≤ 1048576) : Sv w w.heap.size p q (Lif.rules l) (Lif.rules m) :=
  ⟨Dir.own_holds h, Dir.own_holds h2, Nat.le_refl _, Lif.rules_len hl, Lif.rules_len hm, Lif.rules_mem hl, Lif.rules_mem hm⟩

theorem below_serv {w W : World} {x y : List Value} {T T' : TypeId} (hb : Below ((w.alloc (.cells x.toArray T)).alloc (.cells y.toArray T')).heap.size ((w.alloc (.cells x.toArray T)).alloc (.cells y.toArray T')) W) : Below w.heap.size w W := Kept.below_in (Kept.below_in hb)

end Go.Proofs.YtjeihicjfgimdaaGreatDoor.Srv

/-
  CONTRACTS of the model's l22Bound and MayUseOnError; nothing that was there before is changed.
-/
namespace Go.Proofs.YtjeihicjfgimdaaGreatDoor.Srv
open Go Go.RowKit
set_option linter.unusedVariables false
set_option maxRecDepth 1000000

theorem ssec_a {w : World} {B : Nat} {u v : Value} {A G : List D} (h : Sv w B u v A G) (n : List UInt8) (W : World) (hb : Below w.heap.size w W) : Calls Tryz.prog 29 #[u, .string ⟨n.toArray⟩] W fun e w' => e = .returned (.tuple #[.int .i64 (Dir.sof n A).1, .bool (Dir.sof n A).2]) ∧ Below W.heap.size W w' :=
  Dir.spec_sec u B A n W (sv_below h hb).hu (sv_below h hb).hB h.la h.ma
theorem ssec_g {w : World} {B : Nat} {u v : Value} {A G : List D} (h : Sv w B u v A G) (n : List UInt8) (W : World) (hb : Below w.heap.size w W) : Calls Tryz.prog 29 #[v, .string ⟨n.toArray⟩] W fun e w' => e = .returned (.tuple #[.int .i64 (Dir.sof n G).1, .bool (Dir.sof n G).2]) ∧ Below W.heap.size W w' :=
  Dir.spec_sec v B G n W (sv_below h hb).hv (sv_below h hb).hB h.lg h.mg
theorem shas_a {w : World} {B : Nat} {u v : Value} {A G : List D} (h : Sv w B u v A G) (n : List UInt8) (W : World) (hb : Below w.heap.size w W) : Calls Tryz.prog 31 #[u, .string ⟨n.toArray⟩] W fun e w' => e = .returned (.bool (has n A)) ∧ Below W.heap.size W w' :=
  Dir.spec_has u B A n W (sv_below h hb).hu h.la
theorem shas_g {w : World} {B : Nat} {u v : Value} {A G : List D} (h : Sv w B u v A G) (n : List UInt8) (W : World) (hb : Below w.heap.size w W) : Calls Tryz.prog 31 #[v, .string ⟨n.toArray⟩] W fun e w' => e = .returned (.bool (has n G)) ∧ Below W.heap.size W w' :=
  Dir.spec_has v B G n W (sv_below h hb).hv h.lg
theorem rules_sv {l m : List Flds.Fld} {B B' : Nat} {p q : Value} {w : World} (h : Dir.Own w B p (Lif.rules l)) (h2 : Dir.Own w B' q (Lif.rules m)) (hl : Flds.total l ≤ 1048576) (hm : Flds.total m ≤ 1048576) : Sv w w.heap.size p q (Lif.rules l) (Lif.rules m) :=
  ⟨Dir.own_holds h, Dir.own_holds h2, Nat.le_refl _, Lif.rules_len hl, Lif.rules_len hm, Lif.rules_mem hl, Lif.rules_mem hm⟩

end Go.Proofs.YtjeihicjfgimdaaGreatDoor.Srv
