/-
  CONTRACTS AND PLAIN FACTS, several texts in one; each says in its own words what it proves.
-/
import Derived.Test.YtkedndamkjnmkaaGreatDoorPkW
import Derived.Test.YtkedndamkjnmkaaGreatDoorPkU
import Derived.Test.YtkedndamkjnmkaaGreatDoorPkX
import Derived.Test.YtkedndamkjnmkaaGreatDoorPkO
import Derived.Deep.AppendLies
import Derived.Deep.RegionHeldLaw
import Derived.RegionTactic

/-
  CONTRACTS of IsSimple, the model's and the program's, with l28Bare, isSpecial, isCondition and slices.ContainsFunc at a closure without captures; nothing that was there before is changed.
-/
namespace Go.Proofs.YtkedndamkjnmkaaGreatDoor.Flds
open Go Go.RowKit
set_option linter.unusedVariables false
set_option maxRecDepth 1000000
set_option maxRecDepth 1000000


set_option maxRecDepth 1000000 in
theorem idx0_nil (K : FuncId) (p : Fld → Bool) (a : Option Addr) (cap : Nat) (w : World) :
    Calls Tryz.prog 59 #[.slice a 0 cap, .func (.func K) #[] #[]] w (IdxEnd p [] w) := by
  go_enter Tryz.func59, Tryz.ntmps59
  go_wp2
  go_loop [8] (fun i => i = .int .i64 0) (fun i => 0)
  case atStart => rfl
  case round =>
    obtain rfl := hrel
    go_wp2
    go_ret
    exact ⟨_, rfl, Or.inr ⟨by decide, rfl⟩, Below.refl _ _⟩

set_option maxRecDepth 1000000 in
set_option maxHeartbeats 1000000 in
theorem idx0_some (K : FuncId) (p : Fld → Bool) (b off cap : Nat) (l : List Fld) (w : World) (hE : Enters K) (hK : Keeps0 K p w) (hc : At w b off l) (h0 : 0 < l.length) (hl : l.length ≤ 1048576) :
    Calls Tryz.prog 59 #[.slice (some ⟨b, off, none⟩) l.length cap, .func (.func K) #[] #[]] w (IdxEnd p l w) := by
  have hbl := at_lt hc h0
  have HC := Lib.hid hc
  have HK := Lib.hid hK
  have HE := Lib.hid hE
  clear hc hK hE
  go_enter Tryz.func59, Tryz.ntmps59
  go_wp2
  go_loopw [8] (fun i wr => ∃ k : Nat, k ≤ l.length ∧ i = .int .i64 (k : Int) ∧ Hid ((l.take k).any p = false) ∧ Below w.heap.size w wr) (fun i _ => l.length - (intOf i).toNat)
  case atStart => exact ⟨0, Nat.zero_le _, rfl, rfl, Below.refl _ _⟩
  case round =>
    obtain ⟨k, hk, rfl, hn, hb⟩ := hrel
    by_cases hlt : k < l.length
    · obtain ⟨c1, c2⟩ := at_below HC.out hb hbl k hlt
      have HM := Lib.hid (any_more (p := p) hlt)
      generalize l.getD k nofld = f at c1 c2 HM
      obtain ⟨x, y⟩ := f
      unfold sv at c1 c2
      have HB := Lib.hid hb
      have HKx := Lib.hid (HK.out x y wr hb)
      clear hb
      by_cases hp : p (x, y) = true
      · have HT : Hid (l.any p = true) := Lib.hid (any_take (k := k + 1) (by rw [HM.out, hp]; simp))
        rw [hp] at HKx
        clear hp HM hn
        go_wp2_with (fail)
        rw [HE.out, Oper.upon_enter]
        refine HKx.out.mono ?_
        rintro e w1 ⟨rfl, hb1⟩
        have HB1 := Lib.hid (Base.then_below HB.out hb1)
        clear hb1
        go_wp2
        go_ret
        exact ⟨_, rfl, Or.inl ⟨by omega, HT.out⟩, HB1.out⟩
      · have hp' : p (x, y) = false := by simpa using hp
        have HT : Hid ((l.take (k + 1)).any p = false) := Lib.hid (by rw [HM.out, hn.out, hp']; rfl)
        rw [hp'] at HKx
        clear hp hp' HM hn
        go_wp2_with (fail)
        rw [HE.out, Oper.upon_enter]
        refine HKx.out.mono ?_
        rintro e w1 ⟨rfl, hb1⟩
        have HB1 := Lib.hid (Base.then_below HB.out hb1)
        clear hb1
        go_wp2
        go_roundw
        case rel => exact ⟨k + 1, by omega, by go_num, HT.out, HB1.out⟩
        case measure => simp [intOf]; omega
    · have HT : Hid (l.any p = false) := Lib.hid (by have h := hn.out; rwa [List.take_of_length_le (by omega)] at h)
      go_wp2
      go_ret
      exact ⟨_, rfl, Or.inr ⟨by decide, HT.out⟩, hb⟩

theorem idx0_any (K : FuncId) (p : Fld → Bool) (v : Value) (B : Nat) (l : List Fld) (w : World) (hE : Enters K) (hK : Keeps0 K p w) (h : Holds w B v l) (hl : l.length ≤ 1048576) :
    Calls Tryz.prog 59 #[v, .func (.func K) #[] #[]] w (IdxEnd p l w) := by
  rcases h with ⟨rfl, a, cap, rfl⟩ | ⟨h0, b, off, cap, rfl, _, _, hc⟩
  · exact idx0_nil K p a cap w
  · exact idx0_some K p b off cap l w hE hK hc h0 hl

set_option maxRecDepth 1000000 in
theorem contains0_any (K : FuncId) (p : Fld → Bool) (v : Value) (B : Nat) (l : List Fld) (w : World) (hE : Enters K) (hK : Keeps0 K p w) (h : Holds w B v l) (hl : l.length ≤ 1048576) :
    Calls Tryz.prog 30 #[v, .func (.func K) #[] #[]] w fun e w' => e = .returned (.bool (l.any p)) ∧ Below w.heap.size w w' := by
  have HI := Lib.hid (idx0_any K p v B l w hE hK h hl)
  clear h hK hE
  go_enter Tryz.func30, Tryz.ntmps30
  go_wp2_with (fail)
  go_at_call 59
  refine HI.out.mono ?_
  rintro e w1 ⟨z, rfl, hz, hb⟩
  rcases hz with ⟨hz, hp⟩ | ⟨hz, hp⟩
  · have HP := Lib.hid hp
    have HB := Lib.hid hb
    clear hb hp
    go_wp2
    go_ret
    exact ⟨congrArg (fun q => Ending.returned (.bool q)) (show true = l.any p from HP.out.symm), HB.out⟩
  · have HP := Lib.hid hp
    have hzn : ¬ 0 ≤ z := by omega
    have HB := Lib.hid hb
    clear hb hp
    go_wp2
    go_ret
    exact ⟨congrArg (fun q => Ending.returned (.bool q)) (show decide (0 ≤ z) = l.any p by rw [HP.out]; simp; omega), HB.out⟩


def rng : List UInt8 := [114, 97, 110, 103, 101]
def aut : List UInt8 := [97, 117, 116, 104, 111, 114, 105, 122, 97, 116, 105, 111, 110]
def ccn : List UInt8 := [99, 97, 99, 104, 101, 45, 99, 111, 110, 116, 114, 111, 108]
def ifm : List UInt8 := [105, 102, 45, 109, 97, 116, 99, 104]
def ius : List UInt8 := [105, 102, 45, 117, 110, 109, 111, 100, 105, 102, 105, 101, 100, 45, 115, 105, 110, 99, 101]
def inm : List UInt8 := [105, 102, 45, 110, 111, 110, 101, 45, 109, 97, 116, 99, 104]
def ims : List UInt8 := [105, 102, 45, 109, 111, 100, 105, 102, 105, 101, 100, 45, 115, 105, 110, 99, 101]
def ifr : List UInt8 := [105, 102, 45, 114, 97, 110, 103, 101]
def isc (n : List UInt8) : Bool := n == ifm || n == ius || n == inm || n == ims || n == ifr
def spn (n : List UInt8) : Bool := n == rng || n == aut || n == ccn || isc n
def brn (n : List UInt8) : Bool := n == rng || n == ifm || n == inm || n == ims || n == ius || n == ifr
theorem ret_bb {a b : Bool} (h : a = b) : Ending.returned (.bool a) = .returned (.bool b) := by rw [h]
theorem brn_eq (n : List UInt8) : spn n = (brn n || (n == aut || n == ccn)) := by
  unfold spn brn isc
  cases (n == rng) <;> cases (n == aut) <;> cases (n == ccn) <;> cases (n == ifm) <;> cases (n == ius) <;> cases (n == inm) <;> cases (n == ims) <;> cases (n == ifr) <;> rfl
set_option maxHeartbeats 2000000 in
theorem impl_cond (n : List UInt8) (w : World) : Calls Tryz.prog 60 #[.string ⟨n.toArray⟩] w fun e w' => e = .returned (.bool (isc n)) ∧ w = w' := by
  by_cases hifm : n = [105, 102, 45, 109, 97, 116, 99, 104]
  case pos =>
    subst hifm
    go_enter Tryz.func60, Tryz.ntmps60
    go_wp2
    go_ret
    exact ⟨ret_bb (by decide), rfl⟩
  have bifm : (n == [105, 102, 45, 109, 97, 116, 99, 104]) = false := beq_eq_false_iff_ne.2 hifm
  by_cases hius : n = [105, 102, 45, 117, 110, 109, 111, 100, 105, 102, 105, 101, 100, 45, 115, 105, 110, 99, 101]
  case pos =>
    subst hius
    go_enter Tryz.func60, Tryz.ntmps60
    go_wp2
    go_ret
    exact ⟨ret_bb (by decide), rfl⟩
  have bius : (n == [105, 102, 45, 117, 110, 109, 111, 100, 105, 102, 105, 101, 100, 45, 115, 105, 110, 99, 101]) = false := beq_eq_false_iff_ne.2 hius
  by_cases hinm : n = [105, 102, 45, 110, 111, 110, 101, 45, 109, 97, 116, 99, 104]
  case pos =>
    subst hinm
    go_enter Tryz.func60, Tryz.ntmps60
    go_wp2
    go_ret
    exact ⟨ret_bb (by decide), rfl⟩
  have binm : (n == [105, 102, 45, 110, 111, 110, 101, 45, 109, 97, 116, 99, 104]) = false := beq_eq_false_iff_ne.2 hinm
  by_cases hims : n = [105, 102, 45, 109, 111, 100, 105, 102, 105, 101, 100, 45, 115, 105, 110, 99, 101]
  case pos =>
    subst hims
    go_enter Tryz.func60, Tryz.ntmps60
    go_wp2
    go_ret
    exact ⟨ret_bb (by decide), rfl⟩
  have bims : (n == [105, 102, 45, 109, 111, 100, 105, 102, 105, 101, 100, 45, 115, 105, 110, 99, 101]) = false := beq_eq_false_iff_ne.2 hims
  by_cases hifr : n = [105, 102, 45, 114, 97, 110, 103, 101]
  case pos =>
    subst hifr
    go_enter Tryz.func60, Tryz.ntmps60
    go_wp2
    go_ret
    exact ⟨ret_bb (by decide), rfl⟩
  have bifr : (n == [105, 102, 45, 114, 97, 110, 103, 101]) = false := beq_eq_false_iff_ne.2 hifr
  have HE : Hid (isc n = false) := Lib.hid (by unfold isc ifm ius inm ims ifr; rw [bifm, bius, binm, bims, bifr]; rfl)
  go_enter Tryz.func60, Tryz.ntmps60
  go_wp2
  go_ret
  exact ⟨ret_bb HE.out.symm, rfl⟩

set_option maxHeartbeats 2000000 in
theorem impl_spec (n : List UInt8) (w : World) : Calls Tryz.prog 32 #[.string ⟨n.toArray⟩] w fun e w' => e = .returned (.bool (spn n)) ∧ w = w' := by
  have HC := Lib.hid (impl_cond n w)
  by_cases hrng : n = [114, 97, 110, 103, 101]
  case pos =>
    subst hrng
    go_enter Tryz.func32, Tryz.ntmps32
    go_wp2
    go_ret
    exact ⟨ret_bb (by decide), rfl⟩
  have brng : (n == [114, 97, 110, 103, 101]) = false := beq_eq_false_iff_ne.2 hrng
  by_cases haut : n = [97, 117, 116, 104, 111, 114, 105, 122, 97, 116, 105, 111, 110]
  case pos =>
    subst haut
    go_enter Tryz.func32, Tryz.ntmps32
    go_wp2
    go_ret
    exact ⟨ret_bb (by decide), rfl⟩
  have baut : (n == [97, 117, 116, 104, 111, 114, 105, 122, 97, 116, 105, 111, 110]) = false := beq_eq_false_iff_ne.2 haut
  by_cases hccn : n = [99, 97, 99, 104, 101, 45, 99, 111, 110, 116, 114, 111, 108]
  case pos =>
    subst hccn
    go_enter Tryz.func32, Tryz.ntmps32
    go_wp2
    go_ret
    exact ⟨ret_bb (by decide), rfl⟩
  have bccn : (n == [99, 97, 99, 104, 101, 45, 99, 111, 110, 116, 114, 111, 108]) = false := beq_eq_false_iff_ne.2 hccn
  have HE : Hid (spn n = isc n) := Lib.hid (by unfold spn rng aut ccn; rw [brng, baut, bccn]; rfl)
  generalize isc n = r at *
  go_enter Tryz.func32, Tryz.ntmps32
  go_wp2_with (fail)
  go_at_call 60
  refine HC.out.mono ?_
  rintro e w1 ⟨rfl, rfl⟩
  go_wp2
  go_ret
  exact ⟨ret_bb HE.out.symm, rfl⟩

theorem sim_keeps (w : World) : Keeps0 31 (fun f => spn f.1) w := by
  intro x y wx hb
  have HB := Lib.hid ((Below.refl wx.heap.size wx).alloc (Nat.le_refl _) (.cells #[.string ⟨x.toArray⟩, .string ⟨y.toArray⟩] 52))
  have HC := Lib.hid (fun W => impl_spec x W)
  clear hb
  show Calls Tryz.prog _ _ wx fun e w' => e = .returned (.bool (spn x)) ∧ _
  generalize spn x = r at *
  go_enter Tryz.func31, Tryz.ntmps31
  go_wp2_with (fail)
  go_at_call 32
  refine (HC.out _).mono ?_
  rintro e w1 ⟨rfl, rfl⟩
  go_wp2
  go_ret
  exact ⟨rfl, HB.out⟩

/-- Whether a request is one that others wait for. -/
def simp1 (m h t : List UInt8) (l : List Fld) : Bool := ((Nt.keyp m h t l).2 && m == [71, 69, 84]) && !l.any (fun f => spn f.1)

set_option maxHeartbeats 4000000 in
theorem impl_sim (m h t : List UInt8) (v : Value) (B : Nat) (l : List Fld) (w : World) (hh : Holds w B v l) (hB : B ≤ w.heap.size) (hl : total l ≤ 1048576) (hm : m.length ≤ 1048576) (hhl : h.length ≤ 1048576) (ht : t.length ≤ 1048576) (he : Par.Errs w) (hmx : Sh.MxL w) :
    Calls Tryz.prog 15 #[.agg #[.string ⟨m.toArray⟩, .string ⟨h.toArray⟩, .string ⟨t.toArray⟩, v]] w fun e w' => e = .returned (.bool (simp1 m h t l)) ∧ Below w.heap.size w w' := by
  have HB0 : Hid (Below w.heap.size w (w.alloc (.cells #[.string ⟨m.toArray⟩, .string ⟨h.toArray⟩, .string ⟨t.toArray⟩, v] 31))) := Lib.hid ((Below.refl _ _).alloc (Nat.le_refl _) _)
  have HC := Lib.hid (fun (W : World) (hb : Below w.heap.size w W) => Nt.impl_key m h t v B l W (holds_below hh (hb.mono hB)) (Nat.le_trans hB hb.size) hl hm hhl ht (Par.errs_below he hb) (Sh.mxl_below hmx hb))
  have HA := Lib.hid (fun (W : World) (hb : Below w.heap.size w W) => contains0_any 31 (fun f => spn f.1) v B l W (fun args w => rfl) (sim_keeps W) (holds_below hh (hb.mono hB)) (Msg.len_total hl))
  have HK := Lib.hid (fun w1 (hb : Below (w.alloc (.cells #[.string ⟨m.toArray⟩, .string ⟨h.toArray⟩, .string ⟨t.toArray⟩, v] 31)).heap.size (w.alloc (.cells #[.string ⟨m.toArray⟩, .string ⟨h.toArray⟩, .string ⟨t.toArray⟩, v] 31)) w1) => And.intro (And.intro ((Kept.one hb).1 0 _ rfl) ((Kept.one hb).1 3 _ rfl)) (Kept.below_in hb))
  have HE : Hid (simp1 m h t l = (((Nt.keyp m h t l).2 && m == [71, 69, 84]) && !l.any (fun f => spn f.1))) := Lib.hid rfl
  unfold Nt.PairEnd at HC
  generalize simp1 m h t l = res at *
  generalize Nt.keyp m h t l = kp at *
  generalize l.any (fun f => spn f.1) = z at *
  obtain ⟨r1, r2⟩ := kp
  simp only at HC HE
  clear hl hm hh ht hhl he hmx

  by_cases hg : m = [71, 69, 84]
  case neg =>
    have hgb : (m == [71, 69, 84]) = false := beq_eq_false_iff_ne.2 hg
    have HF : Hid (res = false) := Lib.hid (by rw [HE.out, hgb]; simp)
    clear HE HA
    go_enter Tryz.func15, Tryz.ntmps15
    go_wp2_with (fail)
    go_at_call 12
    refine (HC.out _ HB0.out).mono ?_
    rintro e w1 ⟨rfl, b1⟩
    obtain ⟨⟨c0, c3⟩, hb1⟩ := HK.out _ b1
    have HB1 := Lib.hid hb1
    have HS1 := Lib.hid b1
    clear b1 hb1
    go_wp2
    go_ret
    exact ⟨ret_bb HF.out.symm, HB1.out⟩
  subst hg
  cases r2
  case false =>
    have HF : Hid (res = false) := Lib.hid (by rw [HE.out]; rfl)
    clear HE HA
    go_enter Tryz.func15, Tryz.ntmps15
    go_wp2_with (fail)
    go_at_call 12
    refine (HC.out _ HB0.out).mono ?_
    rintro e w1 ⟨rfl, b1⟩
    obtain ⟨⟨c0, c3⟩, hb1⟩ := HK.out _ b1
    have HB1 := Lib.hid hb1
    have HS1 := Lib.hid b1
    clear b1 hb1
    go_wp2
    go_ret
    exact ⟨ret_bb HF.out.symm, HB1.out⟩
  have HF : Hid (res = !z) := Lib.hid (by rw [HE.out]; simp)
  clear HE
  go_enter Tryz.func15, Tryz.ntmps15
  go_wp2_with (fail)
  go_at_call 12
  refine (HC.out _ HB0.out).mono ?_
  rintro e w1 ⟨rfl, b1⟩
  obtain ⟨⟨c0, c3⟩, hb1⟩ := HK.out _ b1
  have HB1 := Lib.hid hb1
  have HS1 := Lib.hid b1
  clear b1 hb1
  go_wp2_with (fail)
  go_at_call 30
  refine (HA.out _ HB1.out).mono ?_
  rintro e w2 ⟨rfl, b2⟩
  have HB2 := Lib.hid (Base.then_below HB1.out b2)
  clear b2
  go_wp2
  go_ret
  exact ⟨ret_bb (by rw [HF.out]), HB2.out⟩

def bare (l : List Fld) : List Fld := l.filter (fun f => !brn f.1)
theorem bare_drop {l : List Fld} {k : Nat} (h : k < l.length) (hb : brn (l.getD k nofld).1 = true) : bare (l.take (k + 1)) = bare (l.take k) := by
  unfold bare; rw [filt_more h, if_neg (by rw [hb]; decide)]
theorem bare_keep {l : List Fld} {k : Nat} (h : k < l.length) (hb : brn (l.getD k nofld).1 = false) : bare (l.take (k + 1)) = bare (l.take k) ++ [l.getD k nofld] := by
  unfold bare; rw [filt_more h, if_pos (by rw [hb]; rfl)]
theorem bare_le (l : List Fld) : (bare l).length ≤ l.length := List.length_filter_le _ _
theorem bare_all (l : List Fld) : ((bare l).length == l.length) = !l.any (fun f => brn f.1) := by
  unfold bare
  induction l with
  | nil => rfl
  | cons f l ih =>
    rw [List.any_cons]
    cases hb : brn f.1 with
    | true =>
      rw [List.filter_cons_of_neg (by rw [hb]; decide)]
      have := List.length_filter_le (fun f => !brn f.1) l
      simp; omega
    | false =>
      rw [List.filter_cons_of_pos (by rw [hb]; rfl), Bool.false_or, ← ih, List.length_cons, List.length_cons]
      rw [Bool.eq_iff_iff, beq_iff_eq, beq_iff_eq]; omega
theorem simp1_eq (m h t : List UInt8) (l : List Fld) : simp1 m h t l = (((((Nt.keyp m h t l).2 && m == [71, 69, 84]) && !has l aut) && !has l ccn) && ((bare l).length == l.length)) := by
  unfold simp1
  rw [bare_all]
  have : l.any (fun f => spn f.1) = (l.any (fun f => brn f.1) || (has l aut || has l ccn)) := by
    unfold has
    induction l with
    | nil => rfl
    | cons f l ih =>
      rw [List.any_cons, ih, brn_eq, List.any_cons, List.any_cons, List.any_cons]
      cases brn f.1 <;> cases (f.1 == aut) <;> cases (f.1 == ccn) <;> cases (l.any fun f => brn f.1) <;> cases (l.any fun f => f.1 == aut) <;> cases (l.any fun f => f.1 == ccn) <;> rfl
  rw [this]
  cases (Nt.keyp m h t l).2 <;> cases (m == [71, 69, 84]) <;> cases (l.any fun f => brn f.1) <;> cases (has l aut) <;> cases (has l ccn) <;> rfl
theorem box_grown {W W' : World} {g : Nat} {xs : List Value} {row : Option Nat} (h : Kept.Box W g xs) (hg : W.grownBy W' row) (hne : ∀ k, row = some k → g < k) (hs : W.heap.size ≤ W'.heap.size) : Kept.Box W' g xs :=
  ⟨fun j u e => hg.cell (h.cell j u e) (fun e => by have := hne g e.symm; omega), fun j => by rw [World.grownBy.frozen_far hg ⟨g, j, none⟩ h.lt (fun e => by have := hne g e.symm; omega)]; exact h.frz j, Nat.lt_of_lt_of_le h.lt hs⟩
theorem grown_set (w : World) (g j : Nat) (u : Value) : w.grownBy (w.setCell ⟨g, j, none⟩ u) (some g) := ⟨rfl, rfl, rfl, by simp, fun k _ hk => heap_setCell_other w ⟨g, j, none⟩ k u (fun e => hk (by simp [e]))⟩
theorem row_set {w : World} {B g n : Nat} {v : Value} {T : TypeId} {xs : List Value} (h : w.ownsRow B T 2 v n xs) (hg : g < B) (j : Nat) (u : Value) : (w.setCell ⟨g, j, none⟩ u).ownsRow B T 2 v n xs :=
  h.kept (grown_set w g j u) (Or.inr (fun e => by have := (h.lt g e).1; omega))
def BareEnd (h t : List UInt8) (l : List Fld) (w : World) (e : Ending) (w' : World) : Prop := ∃ u, e = .returned (.agg #[.string ⟨#[71, 69, 84]⟩, .string ⟨h.toArray⟩, .string ⟨t.toArray⟩, u]) ∧ Own w' w.heap.size u (bare l) ∧ Below w.heap.size w w'

set_option maxHeartbeats 8000000 in
theorem spec_bare (m h t : List UInt8) (v : Value) (B : Nat) (l : List Fld) (w : World) (hh : Holds w B v l) (hB : B ≤ w.heap.size) (hl : l.length ≤ 1048576) :
    Calls Tryz.prog 29 #[.agg #[.string ⟨m.toArray⟩, .string ⟨h.toArray⟩, .string ⟨t.toArray⟩, v]] w (BareEnd h t l w) := by
  obtain ⟨i0, hi, hz0, hz1, hz2⟩ := info_parts info_fld
  obtain ⟨a, cap, rfl, ha⟩ : ∃ a cap, v = .slice a l.length cap ∧ (0 < l.length → ∃ b off, a = some ⟨b, off, none⟩ ∧ b < B ∧ At w b off l) := by
    rcases hh with ⟨rfl, a, cap, rfl⟩ | ⟨h0, b, off, cap, rfl, hb, hcap, hc⟩
    · exact ⟨a, cap, rfl, fun h => by simp at h⟩
    · exact ⟨_, cap, rfl, fun _ => ⟨b, off, rfl, hb, hc⟩⟩
  have HA := Lib.hid ha
  clear ha hh
  obtain ⟨w2, hw2⟩ : ∃ w2, w2 = (w.alloc (.cells #[.string ⟨m.toArray⟩, .string ⟨h.toArray⟩, .string ⟨t.toArray⟩, .slice a l.length cap] 31)).alloc (.cells #[.string ⟨#[]⟩, .string ⟨#[]⟩, .string ⟨#[]⟩, .slice none 0 0] 31) := ⟨_, rfl⟩
  have HX1 : Hid (Kept.Box (w2.alloc (.cells #[] 52)) w.heap.size [.string ⟨m.toArray⟩, .string ⟨h.toArray⟩, .string ⟨t.toArray⟩, .slice a l.length cap]) := Lib.hid (by rw [hw2]; exact (Kept.Box.new.alloc _).alloc _)
  have hs2 : w2.heap.size = w.heap.size + 2 := by rw [hw2]; simp
  have HX2 : Hid (Kept.Box (w2.alloc (.cells #[] 52)) (w.heap.size + 1) [.string ⟨#[]⟩, .string ⟨#[]⟩, .string ⟨#[]⟩, .slice none 0 0]) := Lib.hid (by
    rw [hw2]; have h := Kept.Box.new (w := w.alloc (.cells #[.string ⟨m.toArray⟩, .string ⟨h.toArray⟩, .string ⟨t.toArray⟩, .slice a l.length cap] 31)) (T := 31) (a := #[.string ⟨#[]⟩, .string ⟨#[]⟩, .string ⟨#[]⟩, .slice none 0 0])
    rw [World.size_alloc] at h; exact h.alloc _)
  have HB0 : Hid (Below w.heap.size w w2) := Lib.hid (by rw [hw2]; exact (((Below.refl _ _).alloc (Nat.le_refl _) _).alloc (by simp) _))
  have HO := Lib.hid (own_lit_nil w2)
  rw [hs2] at HO
  have HB1 := Lib.hid (HB0.out.alloc HB0.out.size (.cells #[] 52))
  rw [hw2] at HX1 HX2 HB1 HO
  clear hs2 hw2 HB0
  go_enter Tryz.func29, Tryz.ntmps29
  go_wp2
  go_loopw [3, 4] (fun u i wr => ∃ k : Nat, k ≤ l.length ∧ i = .int .i64 (k : Int) ∧ wr.ownsRow (w.heap.size + 2) 52 2 u (bare (l.take k)).length (fcs (bare (l.take k))) ∧ Kept.Box wr w.heap.size [.string ⟨m.toArray⟩, .string ⟨h.toArray⟩, .string ⟨t.toArray⟩, .slice a l.length cap] ∧ Kept.Box wr (w.heap.size + 1) [.string ⟨#[]⟩, .string ⟨#[]⟩, .string ⟨#[]⟩, .slice none 0 0] ∧ Below w.heap.size w wr) (fun _ i _ => l.length - (intOf i).toNat)
  case atStart => exact ⟨0, Nat.zero_le _, rfl, HO.out, HX1.out, HX2.out, HB1.out⟩
  case round =>
    clear HO HX1 HX2 HB1
    obtain ⟨k, hk, rfl, hown, hx1, hx2, hb⟩ := hrel
    have HB := Lib.hid hb
    have HX1 := Lib.hid hx1
    have HX2 := Lib.hid hx2
    have x3 := hx1.cell 3 _ rfl
    by_cases hlt : k < l.length
    · obtain ⟨b, off, rfl, hbw, hc⟩ := HA.out (by omega)
      obtain ⟨c0, c1⟩ := at_below hc hb (Nat.lt_of_lt_of_le hbw hB) k hlt
      have HD := Lib.hid (fun e => bare_drop (l := l) (k := k) hlt e)
      have HKP := Lib.hid (fun e => bare_keep (l := l) (k := k) hlt e)
      have HDL : Hid ((bare (l.take k)).length ≤ 1048577) := Lib.hid (by have h1 := bare_le (l.take k); rw [List.length_take] at h1; omega)
      clear hb hc hx1 hx2
      generalize l.getD k nofld = f at c0 c1 HD HKP
      generalize bare (l.take k) = ds at *
      obtain ⟨n, y⟩ := f
      unfold sv at c0 c1
      simp only at HD HKP c0 c1
      have hki : (k : Int) < (l.length : Int) := by omega

      by_cases hrng : n = [114, 97, 110, 103, 101]
      case pos =>
        subst hrng
        have HE := Lib.hid (HD.out (by decide))
        clear HD HKP
        go_wp2
        go_roundw
        case rel => exact ⟨k + 1, by omega, by go_num, by rw [HE.out]; exact hown, HX1.out, HX2.out, HB.out⟩
        case measure => simp [intOf]; omega
      have brng : (n == [114, 97, 110, 103, 101]) = false := beq_eq_false_iff_ne.2 hrng
      by_cases hifm : n = [105, 102, 45, 109, 97, 116, 99, 104]
      case pos =>
        subst hifm
        have HE := Lib.hid (HD.out (by decide))
        clear HD HKP
        go_wp2
        go_roundw
        case rel => exact ⟨k + 1, by omega, by go_num, by rw [HE.out]; exact hown, HX1.out, HX2.out, HB.out⟩
        case measure => simp [intOf]; omega
      have bifm : (n == [105, 102, 45, 109, 97, 116, 99, 104]) = false := beq_eq_false_iff_ne.2 hifm
      by_cases hinm : n = [105, 102, 45, 110, 111, 110, 101, 45, 109, 97, 116, 99, 104]
      case pos =>
        subst hinm
        have HE := Lib.hid (HD.out (by decide))
        clear HD HKP
        go_wp2
        go_roundw
        case rel => exact ⟨k + 1, by omega, by go_num, by rw [HE.out]; exact hown, HX1.out, HX2.out, HB.out⟩
        case measure => simp [intOf]; omega
      have binm : (n == [105, 102, 45, 110, 111, 110, 101, 45, 109, 97, 116, 99, 104]) = false := beq_eq_false_iff_ne.2 hinm
      by_cases hims : n = [105, 102, 45, 109, 111, 100, 105, 102, 105, 101, 100, 45, 115, 105, 110, 99, 101]
      case pos =>
        subst hims
        have HE := Lib.hid (HD.out (by decide))
        clear HD HKP
        go_wp2
        go_roundw
        case rel => exact ⟨k + 1, by omega, by go_num, by rw [HE.out]; exact hown, HX1.out, HX2.out, HB.out⟩
        case measure => simp [intOf]; omega
      have bims : (n == [105, 102, 45, 109, 111, 100, 105, 102, 105, 101, 100, 45, 115, 105, 110, 99, 101]) = false := beq_eq_false_iff_ne.2 hims
      by_cases hius : n = [105, 102, 45, 117, 110, 109, 111, 100, 105, 102, 105, 101, 100, 45, 115, 105, 110, 99, 101]
      case pos =>
        subst hius
        have HE := Lib.hid (HD.out (by decide))
        clear HD HKP
        go_wp2
        go_roundw
        case rel => exact ⟨k + 1, by omega, by go_num, by rw [HE.out]; exact hown, HX1.out, HX2.out, HB.out⟩
        case measure => simp [intOf]; omega
      have bius : (n == [105, 102, 45, 117, 110, 109, 111, 100, 105, 102, 105, 101, 100, 45, 115, 105, 110, 99, 101]) = false := beq_eq_false_iff_ne.2 hius
      by_cases hifr : n = [105, 102, 45, 114, 97, 110, 103, 101]
      case pos =>
        subst hifr
        have HE := Lib.hid (HD.out (by decide))
        clear HD HKP
        go_wp2
        go_roundw
        case rel => exact ⟨k + 1, by omega, by go_num, by rw [HE.out]; exact hown, HX1.out, HX2.out, HB.out⟩
        case measure => simp [intOf]; omega
      have bifr : (n == [105, 102, 45, 114, 97, 110, 103, 101]) = false := beq_eq_false_iff_ne.2 hifr
      have HE := Lib.hid (HKP.out (by unfold brn rng ifm inm ims ius ifr; rw [brng, bifm, binm, bims, bius, bifr]; rfl))
      clear HD HKP
      have hL := fcs_len ds
      go_wp2_with (at_builtin; refine wpList_append_own _ rfl (.tmp 19) (.tmp 25) 29 rfl (w.heap.size + 2) 52 i0 (.agg #[.string ⟨#[]⟩, .string ⟨#[]⟩]) 2 32 Tryz.underlying29 hi hz0 hz1 hz2 rfl (by decide) _ _ _ rfl (hown.alloc _) ⟨wr.heap.size, 0, none⟩ 1 1 [.string ⟨n.toArray⟩, .string ⟨y.toArray⟩] rfl rfl (news_two _ _ _ _) (two_one (n, y)) (by have := HDL.out; unfold maxLen; omega) (by have := HDL.out; omega) (by have := HX2.out.lt; simp; omega) ?_; intro v1 w3 hown1 hg1 _)
      have hrow := hown.lt
      have HX1' := Lib.hid (box_grown (HX1.out.alloc _) hg1 (fun g e => by have := (hown.lt g e).1; omega) hg1.size)
      have HX2' := Lib.hid (box_grown (HX2.out.alloc _) hg1 (fun g e => by have := (hown.lt g e).1; omega) hg1.size)
      have HB' := Lib.hid ((HB.out.alloc HB.out.size _).grown hg1 (by have := HB.out.size; simp; omega) (fun g e => by have := (hown.lt g e).1; omega))
      have HR : Hid (w3.ownsRow (w.heap.size + 2) 52 2 v1 (ds ++ [(n, y)]).length (fcs (ds ++ [(n, y)]))) := Lib.hid (by rw [List.length_append, fcs_more]; exact hown1)
      clear hown hown1 hg1 hrow
      go_wp2
      go_roundw
      case rel => exact ⟨k + 1, by omega, by go_num, by rw [HE.out]; exact HR.out, HX1'.out, HX2'.out, HB'.out⟩
      case measure => simp [intOf]; omega
    · have hle : Hid (bare (l.take k) = bare l) := Lib.hid (by rw [List.take_of_length_le (by omega)])
      rw [hle.out] at hown
      have HO := Lib.hid hown
      have x1 := hx1.cell 1 _ rfl
      have x2 := hx1.cell 2 _ rfl
      have y0 := hx2.cell 0 _ rfl
      have y1 := hx2.cell 1 _ rfl
      have y2 := hx2.cell 2 _ rfl
      have y3 := hx2.cell 3 _ rfl
      have z0 := hx2.frz 0
      have z1 := hx2.frz 1
      have z2 := hx2.frz 2
      have z3 := hx2.frz 3
      clear hown hx1 hx2 hb
      obtain ⟨au, cu, rfl, _⟩ := Rec.shape_at HO.out
      go_wp2
      refine bodyPost_ret (v := .agg #[.string ⟨#[71, 69, 84]⟩, .string ⟨h.toArray⟩, .string ⟨t.toArray⟩, .slice au (bare l).length cu]) (by simp [results, Tryz.results29, go_sem, x1, x2, y0, y1, y2, y3, z0, z1, z2, z3]) rfl ⟨_, rfl, ?_, ?_⟩
      · refine own_mono (B := w.heap.size + 2) ?_ (by omega)
        exact row_set (row_set (row_set (row_set HO.out (by omega) 0 _) (by omega) 1 _) (by omega) 2 _) (by omega) 3 _
      · exact (((HB.out.setCell (by simp) _).setCell (by simp) _).setCell (by simp) _).setCell (by simp) _

def GrowS (w wr w' : World) : Prop := Below wr.heap.size wr w' ∧ Below w.heap.size w w'
theorem grow_start {w wr : World} (hb : Below w.heap.size w wr) : GrowS w wr wr.drew := ⟨Rec.below_drew (Below.refl _ _), Rec.below_drew hb⟩
theorem grow_old {w wr w' : World} (h : GrowS w wr w') {b o : Nat} {u : Value} (hc : wr.cell? ⟨b, o, none⟩ = some u) : w'.cell? ⟨b, o, none⟩ = some u := by
  rw [h.1.cell (p := ⟨b, o, none⟩) (Rec.lt_of_cell hc)]; exact hc

set_option maxHeartbeats 8000000 in
theorem spec_sim (m h t : List UInt8) (v : Value) (B : Nat) (l : List Fld) (w : World) (hh : Holds w B v l) (hB : B ≤ w.heap.size) (hl : total l ≤ 1048576) (hm : m.length ≤ 1048576) (hhl : h.length ≤ 1048576) (ht : t.length ≤ 1048576) :
    Calls Tryz.prog 14 #[.agg #[.string ⟨m.toArray⟩, .string ⟨h.toArray⟩, .string ⟨t.toArray⟩, v]] w fun e w' => e = .returned (.bool (simp1 m h t l)) ∧ Below w.heap.size w w' := by
  obtain ⟨av, cv, rfl⟩ : ∃ a cap, v = .slice a l.length cap := by
    rcases hh with ⟨rfl, a, cap, rfl⟩ | ⟨h0, b, off, cap, rfl, hb, hcap, hc⟩
    · exact ⟨a, cap, rfl⟩
    · exact ⟨_, cap, rfl⟩
  have HB0 : Hid (Below w.heap.size w (w.alloc (.cells #[.string ⟨m.toArray⟩, .string ⟨h.toArray⟩, .string ⟨t.toArray⟩, .slice av l.length cv] 31))) := Lib.hid ((Below.refl _ _).alloc (Nat.le_refl _) _)
  have HC := Lib.hid (fun (W : World) (hb : Below w.heap.size w W) => Nt.spec_key m h t (.slice av l.length cv) B l W (holds_below hh (hb.mono hB)) (Nat.le_trans hB hb.size) hl hm hhl ht)
  have HGU := Lib.hid (fun (W : World) (hb : Below w.heap.size w W) => spec_get (.slice av l.length cv) B l aut W (holds_below hh (hb.mono hB)) (Nat.le_trans hl (by decide)))
  have HGR := Lib.hid (fun (W : World) (hb : Below w.heap.size w W) => spec_get (.slice av l.length cv) B l ccn W (holds_below hh (hb.mono hB)) (Nat.le_trans hl (by decide)))
  have HBR := Lib.hid (fun (W : World) (hb : Below w.heap.size w W) => spec_bare m h t (.slice av l.length cv) B l W (holds_below hh (hb.mono hB)) (Nat.le_trans hB hb.size) (Msg.len_total hl))
  unfold GetEnd aut at HGU
  unfold GetEnd ccn at HGR
  rw [show decide (0 < (vals [97, 117, 116, 104, 111, 114, 105, 122, 97, 116, 105, 111, 110] l).length) = has l [97, 117, 116, 104, 111, 114, 105, 122, 97, 116, 105, 111, 110] from has_vals l [97, 117, 116, 104, 111, 114, 105, 122, 97, 116, 105, 111, 110]] at HGU
  rw [show decide (0 < (vals [99, 97, 99, 104, 101, 45, 99, 111, 110, 116, 114, 111, 108] l).length) = has l [99, 97, 99, 104, 101, 45, 99, 111, 110, 116, 114, 111, 108] from has_vals l [99, 97, 99, 104, 101, 45, 99, 111, 110, 116, 114, 111, 108]] at HGR
  have HE := Lib.hid (simp1_eq m h t l)
  unfold aut ccn at HE
  unfold Nt.PairEnd at HC
  unfold BareEnd at HBR
  generalize simp1 m h t l = res at *
  generalize Nt.keyp m h t l = kp at *
  generalize has l [97, 117, 116, 104, 111, 114, 105, 122, 97, 116, 105, 111, 110] = zu at *
  generalize has l [99, 97, 99, 104, 101, 45, 99, 111, 110, 116, 114, 111, 108] = zr at *
  generalize Tx.join (vals [97, 117, 116, 104, 111, 114, 105, 122, 97, 116, 105, 111, 110] l) = ju at *
  generalize Tx.join (vals [99, 97, 99, 104, 101, 45, 99, 111, 110, 116, 114, 111, 108] l) = jr at *
  have HBL : Hid ((bare l).length ≤ 1048576) := Lib.hid (Nat.le_trans (bare_le l) (Msg.len_total hl))
  obtain ⟨r1, r2⟩ := kp
  simp only at HC HE
  clear hl hm hh ht hhl

  cases r2
  case false =>
    have HF : Hid (res = false) := Lib.hid (by rw [HE.out]; rfl)
    clear HE HBR
    go_enter Tryz.func14, Tryz.ntmps14
    have HX : Hid (Kept.Box (w.alloc (.cells #[.string ⟨m.toArray⟩, .string ⟨h.toArray⟩, .string ⟨t.toArray⟩, .slice av l.length cv] 31)) w.heap.size [.string ⟨m.toArray⟩, .string ⟨h.toArray⟩, .string ⟨t.toArray⟩, .slice av l.length cv]) := Lib.hid Kept.Box.new
    go_wp2_with (fail)
    go_at_call 10
    refine (HC.out _ HB0.out).mono ?_
    rintro e w1 ⟨rfl, b1⟩
    have HX := Lib.hid (HX.out.below b1)
    have HB := Lib.hid (Base.then_below HB0.out b1)
    have x3 := HX.out.cell 3 _ rfl
    clear b1
    go_wp2_with (fail)
    go_at_call 28
    refine (HGU.out _ HB.out).mono ?_
    rintro e w2 ⟨rfl, b2⟩
    have HX := Lib.hid (HX.out.below b2)
    have HB := Lib.hid (Base.then_below HB.out b2)
    clear b2 x3
    have x3 := HX.out.cell 3 _ rfl
    go_wp2_with (fail)
    go_at_call 28
    refine (HGR.out _ HB.out).mono ?_
    rintro e w3 ⟨rfl, b3⟩
    have HX := Lib.hid (HX.out.below b3)
    have HB := Lib.hid (Base.then_below HB.out b3)
    clear b3 x3
    have x3 := HX.out.cell 3 _ rfl
    have HSD := Lib.hid (grow_start HB.out)
    have f0 : ∀ u : RegS.In (GrowS w w3), u.w.cell? ⟨w.heap.size, 0, none⟩ = some (.string ⟨m.toArray⟩) := fun u => grow_old u.h (HX.out.cell 0 _ rfl)
    clear x3
    go_wp2
    refine RegS.region (GrowS w w3) (by kernel_rfl) (by kernel_rfl) HSD.out ?_
    haveI : Nonempty (RegS.In (GrowS w w3)) := ⟨⟨_, HSD.out⟩⟩
    repeat (first | go_big_quiet_step (fail) | quiet_step (fail))
    refine wpQuiet_nil ?_
    intro _ hw'
    obtain ⟨⟨wz, hS⟩, hw''⟩ := hw'
    subst hw''
    have HBB := Lib.hid hS.2
    clear hS
    go_wp2
    go_ret
    exact ⟨ret_bb HF.out.symm, HBB.out⟩
  by_cases hg : m = [71, 69, 84]
  case neg =>
    have hgb : (m == [71, 69, 84]) = false := beq_eq_false_iff_ne.2 hg
    have HF : Hid (res = false) := Lib.hid (by rw [HE.out, hgb]; rfl)
    clear HE HBR
    go_enter Tryz.func14, Tryz.ntmps14
    have HX : Hid (Kept.Box (w.alloc (.cells #[.string ⟨m.toArray⟩, .string ⟨h.toArray⟩, .string ⟨t.toArray⟩, .slice av l.length cv] 31)) w.heap.size [.string ⟨m.toArray⟩, .string ⟨h.toArray⟩, .string ⟨t.toArray⟩, .slice av l.length cv]) := Lib.hid Kept.Box.new
    go_wp2_with (fail)
    go_at_call 10
    refine (HC.out _ HB0.out).mono ?_
    rintro e w1 ⟨rfl, b1⟩
    have HX := Lib.hid (HX.out.below b1)
    have HB := Lib.hid (Base.then_below HB0.out b1)
    have x3 := HX.out.cell 3 _ rfl
    clear b1
    go_wp2_with (fail)
    go_at_call 28
    refine (HGU.out _ HB.out).mono ?_
    rintro e w2 ⟨rfl, b2⟩
    have HX := Lib.hid (HX.out.below b2)
    have HB := Lib.hid (Base.then_below HB.out b2)
    clear b2 x3
    have x3 := HX.out.cell 3 _ rfl
    go_wp2_with (fail)
    go_at_call 28
    refine (HGR.out _ HB.out).mono ?_
    rintro e w3 ⟨rfl, b3⟩
    have HX := Lib.hid (HX.out.below b3)
    have HB := Lib.hid (Base.then_below HB.out b3)
    clear b3 x3
    have x3 := HX.out.cell 3 _ rfl
    have HSD := Lib.hid (grow_start HB.out)
    have f0 : ∀ u : RegS.In (GrowS w w3), u.w.cell? ⟨w.heap.size, 0, none⟩ = some (.string ⟨m.toArray⟩) := fun u => grow_old u.h (HX.out.cell 0 _ rfl)
    clear x3
    go_wp2
    refine RegS.region (GrowS w w3) (by kernel_rfl) (by kernel_rfl) HSD.out ?_
    haveI : Nonempty (RegS.In (GrowS w w3)) := ⟨⟨_, HSD.out⟩⟩
    repeat (first | go_big_quiet_step (fail) | quiet_step (fail))
    refine wpQuiet_nil ?_
    intro _ hw'
    obtain ⟨⟨wz, hS⟩, hw''⟩ := hw'
    subst hw''
    have HBB := Lib.hid hS.2
    clear hS
    go_wp2
    go_ret
    exact ⟨ret_bb HF.out.symm, HBB.out⟩
  subst hg
  cases zu
  case true =>
    have HF : Hid (res = false) := Lib.hid (by rw [HE.out]; simp)
    clear HE HBR
    go_enter Tryz.func14, Tryz.ntmps14
    have HX : Hid (Kept.Box (w.alloc (.cells #[.string ⟨#[71, 69, 84]⟩, .string ⟨h.toArray⟩, .string ⟨t.toArray⟩, .slice av l.length cv] 31)) w.heap.size [.string ⟨#[71, 69, 84]⟩, .string ⟨h.toArray⟩, .string ⟨t.toArray⟩, .slice av l.length cv]) := Lib.hid Kept.Box.new
    go_wp2_with (fail)
    go_at_call 10
    refine (HC.out _ HB0.out).mono ?_
    rintro e w1 ⟨rfl, b1⟩
    have HX := Lib.hid (HX.out.below b1)
    have HB := Lib.hid (Base.then_below HB0.out b1)
    have x3 := HX.out.cell 3 _ rfl
    clear b1
    go_wp2_with (fail)
    go_at_call 28
    refine (HGU.out _ HB.out).mono ?_
    rintro e w2 ⟨rfl, b2⟩
    have HX := Lib.hid (HX.out.below b2)
    have HB := Lib.hid (Base.then_below HB.out b2)
    clear b2 x3
    have x3 := HX.out.cell 3 _ rfl
    go_wp2_with (fail)
    go_at_call 28
    refine (HGR.out _ HB.out).mono ?_
    rintro e w3 ⟨rfl, b3⟩
    have HX := Lib.hid (HX.out.below b3)
    have HB := Lib.hid (Base.then_below HB.out b3)
    clear b3 x3
    have x3 := HX.out.cell 3 _ rfl
    have HSD := Lib.hid (grow_start HB.out)
    have f0 : ∀ u : RegS.In (GrowS w w3), u.w.cell? ⟨w.heap.size, 0, none⟩ = some (.string ⟨#[71, 69, 84]⟩) := fun u => grow_old u.h (HX.out.cell 0 _ rfl)
    clear x3
    go_wp2
    refine RegS.region (GrowS w w3) (by kernel_rfl) (by kernel_rfl) HSD.out ?_
    haveI : Nonempty (RegS.In (GrowS w w3)) := ⟨⟨_, HSD.out⟩⟩
    repeat (first | go_big_quiet_step (fail) | quiet_step (fail))
    refine wpQuiet_nil ?_
    intro _ hw'
    obtain ⟨⟨wz, hS⟩, hw''⟩ := hw'
    subst hw''
    have HBB := Lib.hid hS.2
    clear hS
    go_wp2
    go_ret
    exact ⟨ret_bb HF.out.symm, HBB.out⟩
  cases zr
  case true =>
    have HF : Hid (res = false) := Lib.hid (by rw [HE.out]; simp)
    clear HE HBR
    go_enter Tryz.func14, Tryz.ntmps14
    have HX : Hid (Kept.Box (w.alloc (.cells #[.string ⟨#[71, 69, 84]⟩, .string ⟨h.toArray⟩, .string ⟨t.toArray⟩, .slice av l.length cv] 31)) w.heap.size [.string ⟨#[71, 69, 84]⟩, .string ⟨h.toArray⟩, .string ⟨t.toArray⟩, .slice av l.length cv]) := Lib.hid Kept.Box.new
    go_wp2_with (fail)
    go_at_call 10
    refine (HC.out _ HB0.out).mono ?_
    rintro e w1 ⟨rfl, b1⟩
    have HX := Lib.hid (HX.out.below b1)
    have HB := Lib.hid (Base.then_below HB0.out b1)
    have x3 := HX.out.cell 3 _ rfl
    clear b1
    go_wp2_with (fail)
    go_at_call 28
    refine (HGU.out _ HB.out).mono ?_
    rintro e w2 ⟨rfl, b2⟩
    have HX := Lib.hid (HX.out.below b2)
    have HB := Lib.hid (Base.then_below HB.out b2)
    clear b2 x3
    have x3 := HX.out.cell 3 _ rfl
    go_wp2_with (fail)
    go_at_call 28
    refine (HGR.out _ HB.out).mono ?_
    rintro e w3 ⟨rfl, b3⟩
    have HX := Lib.hid (HX.out.below b3)
    have HB := Lib.hid (Base.then_below HB.out b3)
    clear b3 x3
    have x3 := HX.out.cell 3 _ rfl
    have HSD := Lib.hid (grow_start HB.out)
    have f0 : ∀ u : RegS.In (GrowS w w3), u.w.cell? ⟨w.heap.size, 0, none⟩ = some (.string ⟨#[71, 69, 84]⟩) := fun u => grow_old u.h (HX.out.cell 0 _ rfl)
    clear x3
    go_wp2
    refine RegS.region (GrowS w w3) (by kernel_rfl) (by kernel_rfl) HSD.out ?_
    haveI : Nonempty (RegS.In (GrowS w w3)) := ⟨⟨_, HSD.out⟩⟩
    repeat (first | go_big_quiet_step (fail) | quiet_step (fail))
    refine wpQuiet_nil ?_
    intro _ hw'
    obtain ⟨⟨wz, hS⟩, hw''⟩ := hw'
    subst hw''
    have HBB := Lib.hid hS.2
    clear hS
    go_wp2
    go_ret
    exact ⟨ret_bb HF.out.symm, HBB.out⟩
  have HF : Hid (res = ((bare l).length == l.length)) := Lib.hid (by rw [HE.out]; rfl)
  clear HE
  go_enter Tryz.func14, Tryz.ntmps14
  have HX : Hid (Kept.Box (w.alloc (.cells #[.string ⟨#[71, 69, 84]⟩, .string ⟨h.toArray⟩, .string ⟨t.toArray⟩, .slice av l.length cv] 31)) w.heap.size [.string ⟨#[71, 69, 84]⟩, .string ⟨h.toArray⟩, .string ⟨t.toArray⟩, .slice av l.length cv]) := Lib.hid Kept.Box.new
  go_wp2_with (fail)
  go_at_call 10
  refine (HC.out _ HB0.out).mono ?_
  rintro e w1 ⟨rfl, b1⟩
  have HX := Lib.hid (HX.out.below b1)
  have HB := Lib.hid (Base.then_below HB0.out b1)
  have x3 := HX.out.cell 3 _ rfl
  clear b1
  go_wp2_with (fail)
  go_at_call 28
  refine (HGU.out _ HB.out).mono ?_
  rintro e w2 ⟨rfl, b2⟩
  have HX := Lib.hid (HX.out.below b2)
  have HB := Lib.hid (Base.then_below HB.out b2)
  clear b2 x3
  have x3 := HX.out.cell 3 _ rfl
  go_wp2_with (fail)
  go_at_call 28
  refine (HGR.out _ HB.out).mono ?_
  rintro e w3 ⟨rfl, b3⟩
  have HX := Lib.hid (HX.out.below b3)
  have HB := Lib.hid (Base.then_below HB.out b3)
  clear b3 x3
  have x3 := HX.out.cell 3 _ rfl
  have hfd : ∀ (u : Value) (W : World), (Instr.field 31 (.agg #[.string ⟨#[71, 69, 84]⟩, .string ⟨h.toArray⟩, .string ⟨t.toArray⟩, u]) 3).run Tryz.prog W = .ok u W := fun _ _ => rfl
  clear x3
  have HX : Hid (Kept.Box w3.drew w.heap.size [.string ⟨#[71, 69, 84]⟩, .string ⟨h.toArray⟩, .string ⟨t.toArray⟩, .slice av l.length cv]) := Lib.hid (HX.out.below (Rec.below_drew (Below.refl _ _)))
  have HB := Lib.hid (Rec.below_drew HB.out)
  go_wp2
  go_region_held_law (fun u => u.cell? ⟨w.heap.size, 0, none⟩ = some (.string ⟨#[71, 69, 84]⟩) ∧ u.cell? ⟨w.heap.size, 1, none⟩ = some (.string ⟨h.toArray⟩) ∧ u.cell? ⟨w.heap.size, 2, none⟩ = some (.string ⟨t.toArray⟩) ∧ u.cell? ⟨w.heap.size, 3, none⟩ = some (.slice av l.length cv))
    (exact ⟨HX.out.cell 0 _ rfl, HX.out.cell 1 _ rfl, HX.out.cell 2 _ rfl, HX.out.cell 3 _ rfl⟩)
    (first | (go_at_call 29; refine (HBR.out _ HB.out).mono ?_; rintro e xq ⟨u, rfl, ou, bq⟩; obtain ⟨au, cu, rfl, _⟩ := Rec.shape_at ou; have HX := Lib.hid (HX.out.below bq); have HB := Lib.hid (Base.then_below HB.out bq); clear ou bq))
  go_wp2
  go_ret
  exact ⟨ret_bb (by rw [HF.out, Bool.eq_iff_iff]; simp; omega), HB.out⟩

end Go.Proofs.YtkedndamkjnmkaaGreatDoor.Flds
