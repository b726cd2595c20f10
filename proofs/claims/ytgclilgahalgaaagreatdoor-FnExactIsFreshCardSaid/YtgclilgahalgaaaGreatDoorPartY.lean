/-
  CONTRACTS AND PLAIN FACTS, several texts in one; each says in its own words what it proves.
-/
import Derived.Test.YtgclilgahalgaaaGreatDoorPartK
import Derived.Test.YtgclilgahalgaaaGreatDoorPartX
import Derived.Test.YtgclilgahalgaaaGreatDoorPartJ
import Derived.Stop.LaidErr
import Derived.Test.YtgclilgahalgaaaGreatDoorPartE
import Derived.Test.YtgclilgahalgaaaGreatDoorPartC

/-
  CONTRACTS of the program's dateIn and of both sides' InitialAge; nothing that was there before is changed.
-/
namespace Go.Proofs.YtgclilgahalgaaaGreatDoor.Age
open Go Go.RowKit
set_option linter.unusedVariables false
set_option maxRecDepth 1000000

/-- The tables that the library and the program lay. -/
def Tabs (w : World) : Prop := Dt.Mds w ∧ Dt.Names w ∧ Fmt.Tens w
theorem tabs_below {w w1 : World} (h : Tabs w) (hb : Below w.heap.size w w1) : Tabs w1 := ⟨Dt.mds_below h.1 hb, Dt.names_below h.2.1 hb, Fmt.tens_below h.2.2 hb⟩
/-- The date that a field is. -/
noncomputable def din (n : List UInt8) (l : List Flds.Fld) : Int × Bool := Dt.pdate (Flds.got n l)
theorem din_bd (n : List UInt8) (l : List Flds.Fld) : 0 ≤ (din n l).1 ∧ (din n l).1 ≤ 4102444799 := Dt.pdate_bd _
def PairEnd (p : Int × Bool) (w : World) (e : Ending) (w' : World) : Prop := e = .returned (.tuple #[.int .i64 p.1, .bool p.2]) ∧ Below w.heap.size w w'

set_option maxHeartbeats 1000000 in
theorem impl_din (v : Value) (B : Nat) (l : List Flds.Fld) (n : List UInt8) (w : World) (h : Flds.Holds w B v l) (hB : B ≤ w.heap.size) (hl : Flds.total l ≤ 1048576) (ht : Tabs w) :
    Calls Tryz.prog 30 #[v, .string ⟨n.toArray⟩] w (PairEnd (din n l) w) := by
  have hg := Flds.got_len n l
  have HG := Lib.hid (Flds.impl_get v B l n _ h hB hl)
  have HP := Lib.hid (fun W (hb : Below w.heap.size w W) => Dt.impl_pdate (Flds.got n l) W (by omega) (tabs_below ht hb).1 (tabs_below ht hb).2.1 (tabs_below ht hb).2.2)
  unfold Flds.GetEnd at HG
  unfold Dt.PdEnd at HP
  have hj : Tx.join (Flds.vals n l) = Flds.got n l := rfl
  rw [hj] at HG
  unfold PairEnd din
  obtain ⟨a, cap, rfl, _⟩ := Flds.shape_lget h
  clear h hl ht hg hj
  generalize Flds.got n l = g at HG HP ⊢
  generalize decide (0 < (Flds.vals n l).length) = q at HG
  generalize Dt.pdate g = p at HP ⊢
  go_enter Tryz.func30, Tryz.ntmps30
  go_wp2_with (fail)
  go_at_call 36
  refine HG.out.mono ?_
  rintro e w1 ⟨rfl, hb1⟩
  have HB1 := Lib.hid hb1
  clear hb1
  go_wp2_with (fail)
  go_at_call 54
  refine (HP.out _ HB1.out).mono ?_
  rintro e w2 ⟨rfl, hb2⟩
  have HB2 := Lib.hid (Base.then_below HB1.out hb2)
  clear hb2
  go_wp2
  go_ret2
  exact ⟨rfl, HB2.out⟩

def dateN : List UInt8 := [100, 97, 116, 101]
def ia0 (l : List Flds.Fld) (a g : Int) : Int := wrap64 (agef l + max 0 (wrap64 (g - a)))
noncomputable def inia (l : List Flds.Fld) (a g : Int) : Int := min (if (din dateN l).2 = true then max (ia0 l a g) (wrap64 (g - (din dateN l).1)) else ia0 l a g) 2147483648

set_option maxHeartbeats 2000000 in
theorem spec_inia (c : Int) (v : Value) (B : Nat) (l : List Flds.Fld) (b : List UInt8) (a g : Int) (w : World) (h : Flds.Holds w B v l) (hB : B ≤ w.heap.size) (hl : Flds.total l ≤ 1048576) (wa : (Lit.int .i64 a).wf = true) (wg : (Lit.int .i64 g).wf = true) :
    Calls Tryz.prog 8 #[.agg #[.int .i64 c, v, .string ⟨b.toArray⟩], .int .i64 a, .int .i64 g] w (NumEnd (inia l a g) w) := by
  have HB0 : Hid (Below w.heap.size w (w.alloc (.cells #[.int .i64 c, v, .string ⟨b.toArray⟩] 29))) := Lib.hid ((Below.refl _ _).alloc (Nat.le_refl _) _)
  have HX := Lib.hid (fun w1 => kept3 (w := w) (w1 := w1) (T := 29) (a := .int .i64 c) (b := v) (c := .string ⟨b.toArray⟩))
  have HA := Lib.hid (spec_agef c v B l b _ (Flds.holds_below h (HB0.out.mono hB)) (Nat.le_trans hB HB0.out.size) hl)
  have HY := Lib.hid (fun W (hb : Below w.heap.size w W) => Flds.holds_below h (hb.mono hB))
  have hg := Flds.got_len dateN l
  have HG := Lib.hid (fun W (hb : Below w.heap.size w W) => Flds.spec_lget v B l dateN W (HY.out W hb) (by omega))
  have HP := Lib.hid (fun W => Dt.spec_pdate (Flds.got dateN l) W (by omega))
  have HE : Hid (inia l a g = min (if (din dateN l).2 = true then max (ia0 l a g) (wrap64 (g - (din dateN l).1)) else ia0 l a g) 2147483648) := Lib.hid rfl
  have hdd : Dt.pdate (Flds.got dateN l) = din dateN l := rfl
  rw [hdd] at HP
  have hi0 : ia0 l a g = wrap64 (agef l + max 0 (wrap64 (g - a))) := rfl
  rw [hi0] at HE
  have ab := agef_bd l
  have db := din_bd dateN l
  unfold Flds.GotEnd at HG
  unfold Dt.PdEnd at HP
  unfold NumEnd at HA ⊢
  clear h hl hg hdd hi0
  generalize inia l a g = z at HE ⊢
  generalize agef l = ag at HA HE ab
  generalize din dateN l = p at HP HE db
  generalize Flds.got dateN l = t at HG HP
  obtain ⟨d, ok⟩ := p
  simp only at HE HP db
  obtain ⟨a1, a2⟩ := ab
  obtain ⟨d1, d2⟩ := db
  unfold dateN at HG
  cases ok
  all_goals
    simp only [Bool.false_eq_true, if_false, if_true] at HE
    go_enter Tryz.func8, Tryz.ntmps8
    go_wp2_with (fail)
    go_at_call 22
    refine HA.out.mono ?_
    rintro e w1 ⟨rfl, hb1⟩
    obtain ⟨⟨q0, q1, q2⟩, hbw⟩ := HX.out _ hb1
    have HB1 := Lib.hid hbw
    clear hb1 hbw
    go_wp2_with (fail)
    go_at_call 23
    refine (Mm.spec_max _ _ _).mono ?_
    rintro e wm ⟨rfl, rfl⟩
    go_wp2_with (fail)
    go_at_call 25
    refine (HG.out _ HB1.out).mono ?_
    rintro e w2 ⟨rfl, hb2⟩
    have HB2 := Lib.hid (Base.then_below HB1.out hb2)
    clear hb2
    go_wp2_with (fail)
    go_at_call 24
    refine (HP.out _).mono ?_
    rintro e w3 ⟨rfl, hb3⟩
    have HB3 := Lib.hid (Base.then_below HB2.out hb3)
    clear hb3
  · go_wp2_with (fail)
    go_at_call 26
    refine (Mm.spec_min _ _ _).mono ?_
    rintro e wm ⟨rfl, rfl⟩
    go_wp2
    go_ret
    exact ⟨ret_n HE.out.symm, HB3.out⟩
  · go_wp2_with (fail)
    go_at_call 23
    refine (Mm.spec_max _ _ _).mono ?_
    rintro e wm ⟨rfl, rfl⟩
    go_wp2_with (fail)
    go_at_call 26
    refine (Mm.spec_min _ _ _).mono ?_
    rintro e wm ⟨rfl, rfl⟩
    go_wp2
    go_ret
    exact ⟨ret_n HE.out.symm, HB3.out⟩

set_option maxHeartbeats 2000000 in
theorem impl_inia (c : Int) (v : Value) (B : Nat) (l : List Flds.Fld) (b : List UInt8) (a g : Int) (w : World) (h : Flds.Holds w B v l) (hB : B ≤ w.heap.size) (hl : Flds.total l ≤ 1048576) (wa : (Lit.int .i64 a).wf = true) (wg : (Lit.int .i64 g).wf = true) (ht : Tabs w) (her : Par.Errs w) :
    Calls Tryz.prog 10 #[.agg #[.int .i64 c, v, .string ⟨b.toArray⟩], .int .i64 a, .int .i64 g] w (NumEnd (inia l a g) w) := by
  have HB0 : Hid (Below w.heap.size w (w.alloc (.cells #[.int .i64 c, v, .string ⟨b.toArray⟩] 29))) := Lib.hid ((Below.refl _ _).alloc (Nat.le_refl _) _)
  have HX := Lib.hid (fun w1 => kept3 (w := w) (w1 := w1) (T := 29) (a := .int .i64 c) (b := v) (c := .string ⟨b.toArray⟩))
  have HA := Lib.hid (impl_agef c v B l b _ (Flds.holds_below h (HB0.out.mono hB)) (Nat.le_trans hB HB0.out.size) hl (tabs_below ht HB0.out).2.2 (Par.errs_below her HB0.out))
  have HP := Lib.hid (fun W (hb : Below w.heap.size w W) => impl_din v B l dateN W (Flds.holds_below h (hb.mono hB)) (Nat.le_trans hB hb.size) hl (tabs_below ht hb))
  have HE : Hid (inia l a g = min (if (din dateN l).2 = true then max (ia0 l a g) (wrap64 (g - (din dateN l).1)) else ia0 l a g) 2147483648) := Lib.hid rfl
  have hi0 : ia0 l a g = wrap64 (agef l + max 0 (wrap64 (g - a))) := rfl
  rw [hi0] at HE
  have ab := agef_bd l
  have db := din_bd dateN l
  unfold PairEnd at HP
  unfold NumEnd at HA ⊢
  clear h hl hi0 ht her
  generalize inia l a g = z at HE ⊢
  generalize agef l = ag at HA HE ab
  generalize din dateN l = p at HP HE db
  obtain ⟨d, ok⟩ := p
  simp only at HE HP db
  obtain ⟨a1, a2⟩ := ab
  obtain ⟨d1, d2⟩ := db
  unfold dateN at HP
  cases ok
  all_goals
    simp only [Bool.false_eq_true, if_false, if_true] at HE
    go_enter Tryz.func10, Tryz.ntmps10
    go_wp2_with (fail)
    go_at_call 28
    refine HA.out.mono ?_
    rintro e w1 ⟨rfl, hb1⟩
    obtain ⟨⟨q0, q1, q2⟩, hbw⟩ := HX.out _ hb1
    have HB1 := Lib.hid hbw
    clear hb1 hbw
    go_wp2_with (fail)
    go_at_call 29
    refine (Mm.impl_max _ _ _).mono ?_
    rintro e wm ⟨rfl, rfl⟩
    go_wp2_with (fail)
    go_at_call 30
    refine (HP.out _ HB1.out).mono ?_
    rintro e w3 ⟨rfl, hb3⟩
    have HB3 := Lib.hid (Base.then_below HB1.out hb3)
    clear hb3
  · go_wp2_with (fail)
    go_at_call 31
    refine (Mm.impl_min _ _ _).mono ?_
    rintro e wm ⟨rfl, rfl⟩
    go_wp2
    go_ret
    exact ⟨ret_n HE.out.symm, HB3.out⟩
  · go_wp2_with (fail)
    go_at_call 29
    refine (Mm.impl_max _ _ _).mono ?_
    rintro e wm ⟨rfl, rfl⟩
    go_wp2_with (fail)
    go_at_call 31
    refine (Mm.impl_min _ _ _).mono ?_
    rintro e wm ⟨rfl, rfl⟩
    go_wp2
    go_ret
    exact ⟨ret_n HE.out.symm, HB3.out⟩
end Go.Proofs.YtgclilgahalgaaaGreatDoor.Age

/-
  FROM A ROW's LISTED VARIABLES to what the contracts ask of the world: the library's table of powers of ten, wherever it stands on the list.
-/
namespace Go.Proofs.YtgclilgahalgaaaGreatDoor.Laid
open Go
set_option linter.unusedVariables false
set_option maxRecDepth 1000000

theorem of_vars {P : Program} {w : World} : ∀ {l : List (String × DataW Unit)} {ps : List MemPlace}, DataW.LaidVars P w l ps → ∀ n d, (n, d) ∈ l →
    ∃ g t cs fuel p, P.globalNamed n = some g ∧ (P.globals[g]?).map (·.type) = some t ∧ w.var? P n = some cs ∧ DataW.trod (fun _ => ()) P w 0 (fun _ => true) false fuel t cs.toList = some (d, p)
  | [], _, _, _, _, hm => by cases hm
  | (n', d') :: r, ps, h, n, d, hm => by
    obtain ⟨g, t, cs, fuel, p, q, h1, h2, h3, h4, h5, _⟩ := h
    rcases List.mem_cons.1 hm with e | e
    · cases e
      exact ⟨g, t, cs, fuel, p, h1, h2, h3, h4⟩
    · exact of_vars h5 n d e
theorem tens_datum : (Rows.laid_internal_strconv_uint64pow10 : DataW Unit) = Lib.tabData .u64 Lib.pow10Tab := by kernel_rfl
theorem tens {l : List (String × DataW Unit)} {W : World} (h : laidMet Tryz.prog l W) (hm : ("internal/strconv.uint64pow10", Rows.laid_internal_strconv_uint64pow10) ∈ l) : Fmt.Tens W := by
  obtain ⟨ps, hv, _⟩ := h
  obtain ⟨g, t, cs, fuel, p, hg, ht, hvar, hd⟩ := of_vars hv _ _ hm
  obtain rfl := Option.some.inj ((show Tryz.prog.globalNamed "internal/strconv.uint64pow10" = some 8 by kernel_rfl).symm.trans hg)
  obtain rfl := Option.some.inj ((show (Tryz.prog.globals[8]?).map (·.type) = some 181 by kernel_rfl).symm.trans ht)
  rw [tens_datum] at hd
  unfold Fmt.Tens Lib.TabIs
  rw [hvar, ← Lib.cells_of_tab Tryz.underlying181 Tryz.underlying151 (by kernel_rfl) (by kernel_rfl) hd]
end Go.Proofs.YtgclilgahalgaaaGreatDoor.Laid

/-
  FROM A ROW's LISTED VARIABLES to what the contracts ask of the world: the two errors of the library's number reader, wherever they stand on the list.
-/
namespace Go.Proofs.YtgclilgahalgaaaGreatDoor.Laid
open Go
set_option linter.unusedVariables false
set_option maxRecDepth 1000000

theorem at_head {P : Program} {w : World} {n : String} {d : DataW Unit} : ∀ {l : List (String × DataW Unit)}, laidMet P l w → (n, d) ∈ l → ∃ r, laidMet P ((n, d) :: r) w
  | [], _, hm => by cases hm
  | x :: r, h, hm => by
    rcases List.mem_cons.1 hm with e | e
    · cases e; exact ⟨r, h⟩
    · exact at_head h.tail e
theorem errs {l : List (String × DataW Unit)} {W : World} (h : laidMet Tryz.prog l W) (h1 : ("strconv.ErrSyntax", Rows.laid_strconv_ErrSyntax) ∈ l) (h2 : ("strconv.ErrRange", Rows.laid_strconv_ErrRange) ∈ l) : Par.Errs W := by
  obtain ⟨r1, k1⟩ := at_head h h1
  obtain ⟨r2, k2⟩ := at_head h h2
  have row : ∀ u, Tryz.prog.typeName? 3 u = some "*errors.errorString" → u = 169 :=
    fun u hu => typeName_ptr_named (nm := "errors.errorString") (by kernel_rfl) (by kernel_rfl) (by decide) u hu
  obtain ⟨a1, s1, v1, _⟩ := laid_sentinel k1 (show Tryz.prog.globalNamed "strconv.ErrSyntax" = some 1 by kernel_rfl) (show (Tryz.prog.globals[1]?).map (·.type) = some 103 by kernel_rfl) Tryz.underlying103 row Tryz.underlying169 Tryz.underlying171 rfl rfl Tryz.underlying9 (by kernel_rfl) (by kernel_rfl)
  obtain ⟨a2, s2, v2, _⟩ := laid_sentinel k2 (show Tryz.prog.globalNamed "strconv.ErrRange" = some 2 by kernel_rfl) (show (Tryz.prog.globals[2]?).map (·.type) = some 103 by kernel_rfl) Tryz.underlying103 row Tryz.underlying169 Tryz.underlying171 rfl rfl Tryz.underlying9 (by kernel_rfl) (by kernel_rfl)
  exact ⟨⟨_, _, v1⟩, ⟨_, _, v2⟩⟩
end Go.Proofs.YtgclilgahalgaaaGreatDoor.Laid

/-
  PLAIN FACTS on the bytes of a text, one by one.
-/
namespace Go.Proofs.YtgclilgahalgaaaGreatDoor.Tx
open Go
set_option linter.unusedVariables false
set_option maxRecDepth 1000000

theorem take_snoc (s : ByteArray) (k : Nat) (h : k < s.size) : s.data.toList.take (k + 1) = s.data.toList.take k ++ [s[k]] := by
  rw [List.take_succ_eq_append_getElem (by simpa using h)]; rfl
theorem drop_cons (s : ByteArray) (k : Nat) (h : k < s.size) : s.data.toList.drop k = s[k] :: s.data.toList.drop (k + 1) := by
  rw [List.drop_eq_getElem_cons (by simpa using h)]; rfl
theorem list_len (s : ByteArray) : s.data.toList.length = s.size := by rw [Array.length_toList]; rfl
theorem eq_nat {c : UInt8} {n : Nat} (hn : n < 256) : ((c.toNat : Int) == (n : Int)) = (c == UInt8.ofNat n) := by
  rw [Bool.eq_iff_iff, beq_iff_eq, beq_iff_eq]
  constructor
  · intro h; exact UInt8.toNat_inj.1 (by simp; omega)
  · intro h; rw [h]; simp; omega
theorem e34 (c : UInt8) : ((c.toNat : Int) == 34) = (c == 34) := eq_nat (n := 34) (by omega)
theorem e92 (c : UInt8) : ((c.toNat : Int) == 92) = (c == 92) := eq_nat (n := 92) (by omega)
theorem e44 (c : UInt8) : ((c.toNat : Int) == 44) = (c == 44) := eq_nat (n := 44) (by omega)

end Go.Proofs.YtgclilgahalgaaaGreatDoor.Tx

/-
  PLAIN FACTS on slices of Tag (written by rec.py): what a slice holds, how that is kept, and how a slice that the call itself has built is such a one.
-/
namespace Go.Proofs.YtgclilgahalgaaaGreatDoor.Tgs
open Go Go.RowKit
set_option linter.unusedVariables false
set_option maxRecDepth 1000000

theorem info_r : (Tryz.prog.info? 57).map (fun i => (i.zero, i.size, i.bytes)) = some (some (.agg #[.bool false, .string ⟨#[]⟩]), 2, 24) := by kernel_rfl

abbrev T : Type := Bool × List UInt8
def nov : T := (false, [])
def cs (f : T) : List Value := [.bool (f.1), .string ⟨(f.2).toArray⟩]
def fv (f : T) : Value := .agg #[.bool (f.1), .string ⟨(f.2).toArray⟩]
theorem cs_len (f : T) : (cs f).length = 2 := rfl
theorem cs_one (f : T) : ∀ u ∈ cs f, u.oneCell' = true := by
  intro u hu; simp [cs] at hu; rcases hu with rfl | rfl <;> rfl
def fcs (l : List T) : List Value := Rec.flat cs l
theorem fcs_len (l : List T) : (fcs l).length = l.length * 2 := Rec.flat_len cs_len l
theorem fcs_more (l : List T) (f : T) : fcs (l ++ [f]) = fcs l ++ [.bool (f.1), .string ⟨(f.2).toArray⟩] := Rec.flat_more l f
theorem fcs_one (l : List T) : ∀ u ∈ fcs l, u.oneCell' = true := Rec.flat_one cs_one l
theorem fcs_put {l : List T} {k : Nat} (f : T) (h : k < l.length) : ((fcs l).set (k * 2) (.bool (f.1))).set (k * 2 + 1) (.string ⟨(f.2).toArray⟩) = fcs (l.set k f) := Rec.flat_put cs_len f h
def Ok (f : T) : Prop := f.2.length ≤ maxLen
/-- The cells from (b, off) on are these. -/
def At (w : World) (b off : Nat) (l : List T) : Prop := Rec.At 2 cs nov w b off l
/-- The slice v reads as l; its cells lie below block B. -/
def Holds (w : World) (B : Nat) (v : Value) (l : List T) : Prop := Rec.Holds 2 cs nov w B v l
abbrev Own (w : World) (B : Nat) (v : Value) (l : List T) : Prop := w.ownsRow B 57 2 v l.length (fcs l)
theorem holds_iff {w : World} {B : Nat} {v : Value} {l : List T} (h : Holds w B v l) : (l = [] ∧ ∃ a cap, v = .slice a 0 cap) ∨ (0 < l.length ∧ ∃ b off cap, v = .slice (some ⟨b, off, none⟩) l.length cap ∧ b < B ∧ l.length ≤ cap ∧ At w b off l) := h
theorem holds_nil (w : World) (B : Nat) (a : Option Addr) (cap : Nat) : Holds w B (.slice a 0 cap) [] := Or.inl ⟨rfl, _, _, rfl⟩
theorem at_cells {w : World} {b off : Nat} {l : List T} (h : At w b off l) {j : Nat} (hj : j < l.length) : w.cell? ⟨b, off + j * 2, none⟩ = some (.bool ((l.getD j nov).1)) ∧ w.cell? ⟨b, off + j * 2 + 1, none⟩ = some (.string ⟨((l.getD j nov).2).toArray⟩) := ⟨h j hj 0 _ rfl, h j hj 1 _ rfl⟩
theorem at_lt {w : World} {b off : Nat} {l : List T} (h : At w b off l) (h0 : 0 < l.length) : b < w.heap.size := Rec.at_lt cs_len (by decide) h h0
theorem at_below {w w' : World} {B b off : Nat} {l : List T} (h : At w b off l) (hb : Below B w w') (hlt : b < B) : At w' b off l := Rec.at_below h hb hlt
theorem holds_more {w : World} {B B' : Nat} {v : Value} {l : List T} (h : Holds w B v l) (hB : B ≤ B') : Holds w B' v l := Rec.holds_more h hB
theorem holds_below {w w' : World} {B : Nat} {v : Value} {l : List T} (h : Holds w B v l) (hb : Below B w w') : Holds w' B v l := Rec.holds_below h hb
theorem holds_grown {w w' : World} {B : Nat} {v : Value} {l : List T} {row : Option Nat} (h : Holds w B v l) (hg : w.grownBy w' row) (hr : ∀ k, row = some k → B ≤ k) : Holds w' B v l := Rec.holds_grown h hg hr
theorem own_len {w : World} {B : Nat} {v : Value} {l : List T} {n : Nat} (h : w.ownsRow B 57 2 v n (fcs l)) : n = l.length := Rec.own_len cs_len (by decide) h
theorem own_cells {w : World} {B g cap : Nat} {l : List T} {n : Nat} (h : w.ownsRow B 57 2 (.slice (some ⟨g, 0, none⟩) n cap) n (fcs l)) {j : Nat} (hj : j < n) : w.cell? ⟨g, j * 2, none⟩ = some (.bool ((l.getD j nov).1)) ∧ w.cell? ⟨g, j * 2 + 1, none⟩ = some (.string ⟨((l.getD j nov).2).toArray⟩) :=
  ⟨Rec.own_cell (z := nov) (i := 0) cs_len (by decide) h hj rfl, Rec.own_cell (z := nov) (i := 1) cs_len (by decide) h hj rfl⟩
theorem own_holds {w : World} {B : Nat} {v : Value} {l : List T} (h : Own w B v l) : Holds w w.heap.size v l := Rec.own_holds cs_len (by decide) h
theorem own_mono {w : World} {B B' : Nat} {v : Value} {l : List T} (h : Own w B v l) (hB : B' ≤ B) : Own w B' v l := Rec.own_mono h hB
theorem row_below {w w' : World} {B n : Nat} {v : Value} {xs : List Value} (h : w.ownsRow B 57 2 v n xs) (hb : Below w.heap.size w w') : w'.ownsRow B 57 2 v n xs := Rec.row_below h hb
theorem row_grown {w w' : World} {B n : Nat} {v : Value} {xs : List Value} {row : Option Nat} (h : w.ownsRow B 57 2 v n xs) (hg : w.grownBy w' row) (hr : ∀ g, v.ownBlock = some g → some g ≠ row) : w'.ownsRow B 57 2 v n xs := Rec.row_grown h hg hr
theorem push_own {B : Nat} {a w w1 : World} {v v' : Value} {l : List T} {f : T} {o : Obj} (hown : Own w B v l) (hb : Below a.heap.size a w) (hB : a.heap.size ≤ B)
    (h' : w1.ownsRow B 57 2 v' (l.length + 1) (fcs l ++ [.bool (f.1), .string ⟨(f.2).toArray⟩])) (hg : (w.alloc o).grownBy w1 v.ownBlock) : Own w1 B v' (l ++ [f]) ∧ Below a.heap.size a w1 := Rec.push_own hown hb hB h' hg
theorem own_lit_nil (w : World) : Own (w.alloc (.cells #[] 57)) w.heap.size (.slice (some ⟨w.heap.size, 0, none⟩) 0 0) [] := Rec.own_lit_nil w _
theorem holds_drew {w : World} {B : Nat} {v : Value} {l : List T} (h : Holds w B v l) : Holds w.drew B v l := h
theorem row_drew {w : World} {B n : Nat} {v : Value} {xs : List Value} (h : w.ownsRow B 57 2 v n xs) : w.drew.ownsRow B 57 2 v n xs := h
def part (l : List T) (k : Nat) : List T := Rec.part nov l k
theorem part_len (l : List T) {k : Nat} (h : k ≤ l.length) : (part l k).length = l.length := Rec.part_len l h
theorem part_all (l : List T) : part l l.length = l := Rec.part_all l
theorem part_more {l : List T} {k : Nat} (h : k < l.length) : (part l k).set k (l.getD k nov) = part l (k + 1) := Rec.part_more h
theorem made_part (l : List T) : (madeCells (Value.agg #[.bool false, .string ⟨#[]⟩]).cells (l.length * 2)).toList = fcs (part l 0) := Rec.made_part cs_len (by decide) l _ rfl
def wt (f : T) : Nat := f.2.length
def total (l : List T) : Nat := Rec.total wt l
theorem len_le_total (l : List T) : l.length ≤ total l := Rec.len_le_total wt l
theorem mem_total {l : List T} {f : T} (h : f ∈ l) : wt f ≤ total l := Rec.mem_total wt h
end Go.Proofs.YtgclilgahalgaaaGreatDoor.Tgs
