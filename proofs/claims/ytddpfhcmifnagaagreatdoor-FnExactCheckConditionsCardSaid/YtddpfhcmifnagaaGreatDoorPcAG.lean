/-
  CONTRACTS AND PLAIN FACTS, several texts in one; each says in its own words what it proves.
-/
import Derived.Test.YtddpfhcmifnagaaGreatDoorPcAF

/-
  CONTRACT of the program's CheckConditions; nothing that was there before is changed.
-/
namespace Go.Proofs.YtddpfhcmifnagaaGreatDoor.Cnd
open Go Go.RowKit
set_option linter.unusedVariables false
set_option maxRecDepth 1000000

set_option maxHeartbeats 16000000 in
theorem impl_cond (me ho t : List UInt8) (u : Value) (l : List Flds.Fld) (c : Int) (v : Value) (m : List Flds.Fld) (b : List UInt8) (B : Nat) (w : World) (h : Flds.Holds w B u l) (h2 : Flds.Holds w B v m) (hB : B ≤ w.heap.size) (hl : Flds.total l ≤ 1048576) (hm : Flds.total m ≤ 1048576) (ht : Age.Tabs w) :
    Calls Tryz.prog 17 #[.agg #[.string ⟨me.toArray⟩, .string ⟨ho.toArray⟩, .string ⟨t.toArray⟩, u], .agg #[.int .i64 c, v, .string ⟨b.toArray⟩]] w (NumEnd (cond me l m) w) := by
  have hll : l.length ≤ 1048576 := by unfold Flds.total at hl; omega
  have hb0 : Below w.heap.size w ((w.alloc (.cells #[.string ⟨me.toArray⟩, .string ⟨ho.toArray⟩, .string ⟨t.toArray⟩, u] 32)).alloc (.cells #[.int .i64 c, v, .string ⟨b.toArray⟩] 35)) := (((Below.refl _ _).alloc (Nat.le_refl _) _).alloc (by simp) _)
  have HR0 : Hid (Below ((w.alloc (.cells #[.string ⟨me.toArray⟩, .string ⟨ho.toArray⟩, .string ⟨t.toArray⟩, u] 32)).alloc (.cells #[.int .i64 c, v, .string ⟨b.toArray⟩] 35)).heap.size ((w.alloc (.cells #[.string ⟨me.toArray⟩, .string ⟨ho.toArray⟩, .string ⟨t.toArray⟩, u] 32)).alloc (.cells #[.int .i64 c, v, .string ⟨b.toArray⟩] 35)) ((w.alloc (.cells #[.string ⟨me.toArray⟩, .string ⟨ho.toArray⟩, .string ⟨t.toArray⟩, u] 32)).alloc (.cells #[.int .i64 c, v, .string ⟨b.toArray⟩] 35))) := Lib.hid (Below.refl _ _)
  have HK := Lib.hid (fun W => keep2 (w := w) (W := W) (T := 32) (T' := 35) (a := .string ⟨me.toArray⟩) (b := .string ⟨ho.toArray⟩) (c := .string ⟨t.toArray⟩) (d := u) (a' := .int .i64 c) (b' := v) (c' := .string ⟨b.toArray⟩))
  have HXF := Lib.hid (fun W (hb : Below w.heap.size w W) => impl_first me ho t u l B W (Flds.holds_below h (hb.mono hB)) (Nat.le_trans hB hb.size) hl)
  have HXM := Lib.hid (fun W (hb : Below w.heap.size w W) => impl_names _ _ same_strong c v m b me ho t u l imN B W (Flds.holds_below h2 (hb.mono hB)) (Flds.holds_below h (hb.mono hB)) (Nat.le_trans hB hb.size) hm hl (by decide))
  have HXC := Lib.hid (fun n W (hb : Below w.heap.size w W) => Rgh.impl_cal c v B m b me ho t u l n W (Flds.holds_below h2 (hb.mono hB)) (Flds.holds_below h (hb.mono hB)) (Nat.le_trans hB hb.size) hm hl (Age.tabs_below ht hb))
  have HXU := Lib.hid (HXC.out iuN)
  have HXS := Lib.hid (HXC.out isN)
  have HXH := Lib.hid (fun n W (hb : Below w.heap.size w W) => Flds.impl_has u B l n W (Flds.holds_below h (hb.mono hB)) (Nat.le_trans hB hb.size) hll)
  have HXI := Lib.hid (HXH.out imN)
  have HXN := Lib.hid (HXH.out inN)
  have HXZ := Lib.hid (fun W (hb : Below w.heap.size w W) => impl_none me ho t u l c v m b B W (Flds.holds_below h (hb.mono hB)) (Flds.holds_below h2 (hb.mono hB)) (Nat.le_trans hB hb.size) hl hm)
  have HXR := Lib.hid (fun W => impl_reads me W)
  have HE : Hid (cond me l m = if Flds.has l imN = true then (if fits Tgs.samestrong imN l m = true then rest1 me l m else 412) else if ((Age.din Rgh.modN m).2 && (Age.din iuN l).2) = true ∧ (Age.din iuN l).1 < (Age.din Rgh.modN m).1 then 412 else rest1 me l m) := Lib.hid rfl
  have HE1 : Hid (rest1 me l m = if Flds.has l inN = true then none1 me l m else rest2 me l m) := Lib.hid rfl
  have HE2 : Hid (rest2 me l m = if (reads me && ((Age.din Rgh.modN m).2 && (Age.din isN l).2)) = true ∧ (Age.din Rgh.modN m).1 ≤ (Age.din isN l).1 then 304 else 200) := Lib.hid rfl
  have HFS : Hid (fst l = if Flds.has l imN = true then imN else if Flds.has l iuN = true then iuN else if Flds.has l inN = true then inN else if Flds.has l isN = true then isN else []) := Lib.hid rfl
  have HUN := Lib.hid (din_none (n := iuN) (l := l))
  have HSN := Lib.hid (din_none (n := isN) (l := l))
  unfold BoolEnd at HXM HXR
  unfold Rgh.ThreeEnd at HXU HXS
  unfold NumEnd at HXZ ⊢
  generalize cond me l m = z at HE ⊢
  generalize rest1 me l m = r1 at HE HE1
  generalize rest2 me l m = r2 at HE1 HE2
  generalize none1 me l m = n1 at HXZ HE1
  generalize fst l = fs at HXF HFS
  generalize Flds.has l imN = b0 at HXI HE HFS
  generalize Flds.has l iuN = b1 at HUN HFS
  generalize Flds.has l inN = b2 at HXN HE1 HFS
  generalize Flds.has l isN = b3 at HSN HFS
  generalize fits Tgs.samestrong imN l m = f0 at HXM HE
  generalize reads me = rd at HXR HE2
  generalize Age.din iuN l = du at HXU HE HUN
  generalize Age.din isN l = ds at HXS HE2 HSN
  generalize Age.din Rgh.modN m = dm at HXU HXS HE HE2
  obtain ⟨ud, uk⟩ := du
  obtain ⟨sd, sk⟩ := ds
  obtain ⟨md, mk⟩ := dm
  simp only at HXU HXS HE HE2 HUN HSN
  have HUK : Hid (b1 = false → (mk && uk) = false) := Lib.hid (fun e => by rw [HUN.out e]; simp)
  have HSK : Hid (b3 = false → (mk && sk) = false) := Lib.hid (fun e => by rw [HSN.out e]; simp)
  generalize (mk && uk) = ku at HXU HE HUK
  generalize (mk && sk) = ks at HXS HE2 HSK
  unfold imN at HXM HXI HFS
  unfold iuN at HXU HFS
  unfold inN at HXN HFS
  unfold isN at HXS HFS
  clear h h2 hl hm ht hll hb0 HXC HXH HUN HSN hB
  go_enter Tryz.func17, Tryz.ntmps17
  cases b0 with
  | true =>
    have HFV : Hid (fs = [105, 102, 45, 109, 97, 116, 99, 104]) := Lib.hid (by rw [HFS.out]; rfl)
    rw [HFV.out] at HXF
    clear HFS
    have HB0 := Lib.hid (HK.out _ HR0.out).2.2
    obtain ⟨⟨q0, q1, q2, q3⟩, ⟨y0, y1, y2⟩, _⟩ := HK.out _ HR0.out
    go_wp2_with (fail)
    go_at_call 39
    refine (HXF.out _ HB0.out).mono ?_
    rintro e x1 ⟨rfl, hb1⟩
    have HR1 := Lib.hid (Base.then_below HR0.out hb1)
    clear hb1
    try clear q0 q1 q2 q3 y0 y1 y2
    obtain ⟨⟨q0, q1, q2, q3⟩, ⟨y0, y1, y2⟩, hbw1⟩ := HK.out _ HR1.out
    have HB1 := Lib.hid hbw1
    clear hbw1
    go_wp2_with (fail)
    go_at_call 40
    refine (HXM.out _ HB1.out).mono ?_
    rintro e x2 ⟨rfl, hb2⟩
    have HR2 := Lib.hid (Base.then_below HR1.out hb2)
    clear hb2
    try clear q0 q1 q2 q3 y0 y1 y2
    obtain ⟨⟨q0, q1, q2, q3⟩, ⟨y0, y1, y2⟩, hbw2⟩ := HK.out _ HR2.out
    have HB2 := Lib.hid hbw2
    clear hbw2
    cases hf0 : f0 with
    | true =>
      go_wp2_with (fail)
      go_at_call 42
      refine (HXU.out _ HB2.out).mono ?_
      rintro e x3 ⟨rfl, hb3⟩
      have HR3 := Lib.hid (Base.then_below HR2.out hb3)
      clear hb3
      try clear q0 q1 q2 q3 y0 y1 y2
      obtain ⟨⟨q0, q1, q2, q3⟩, ⟨y0, y1, y2⟩, hbw3⟩ := HK.out _ HR3.out
      have HB3 := Lib.hid hbw3
      clear hbw3
      go_wp2_with (fail)
      go_at_call 43
      refine (HXI.out _ HB3.out).mono ?_
      rintro e x4 ⟨rfl, hb4⟩
      have HR4 := Lib.hid (Base.then_below HR3.out hb4)
      clear hb4
      try clear q0 q1 q2 q3 y0 y1 y2
      obtain ⟨⟨q0, q1, q2, q3⟩, ⟨y0, y1, y2⟩, hbw4⟩ := HK.out _ HR4.out
      have HB4 := Lib.hid hbw4
      clear hbw4
      go_wp2_with (fail)
      go_at_call 43
      refine (HXN.out _ HB4.out).mono ?_
      rintro e x5 ⟨rfl, hb5⟩
      have HR5 := Lib.hid (Base.then_below HR4.out hb5)
      clear hb5
      try clear q0 q1 q2 q3 y0 y1 y2
      obtain ⟨⟨q0, q1, q2, q3⟩, ⟨y0, y1, y2⟩, hbw5⟩ := HK.out _ HR5.out
      have HB5 := Lib.hid hbw5
      clear hbw5
      cases hb2_ : b2 with
      | true =>
        go_wp2_with (fail)
        go_at_call 44
        refine (HXZ.out _ HB5.out).mono ?_
        rintro e x6 ⟨rfl, hb6⟩
        have HR6 := Lib.hid (Base.then_below HR5.out hb6)
        clear hb6
        try clear q0 q1 q2 q3 y0 y1 y2
        obtain ⟨⟨q0, q1, q2, q3⟩, ⟨y0, y1, y2⟩, hbw6⟩ := HK.out _ HR6.out
        have HB6 := Lib.hid hbw6
        clear hbw6
        have HF : Hid (z = n1) := Lib.hid (by rw [HE.out, hf0, if_pos rfl, if_pos True.intro, HE1.out, hb2_, if_pos rfl])
        go_wp2
        go_ret
        exact ⟨ret_n HF.out.symm, HB6.out⟩
      | false =>
        go_wp2_with (fail)
        go_at_call 42
        refine (HXS.out _ HB5.out).mono ?_
        rintro e x6 ⟨rfl, hb6⟩
        have HR6 := Lib.hid (Base.then_below HR5.out hb6)
        clear hb6
        try clear q0 q1 q2 q3 y0 y1 y2
        obtain ⟨⟨q0, q1, q2, q3⟩, ⟨y0, y1, y2⟩, hbw6⟩ := HK.out _ HR6.out
        have HB6 := Lib.hid hbw6
        clear hbw6
        go_wp2_with (fail)
        go_at_call 45
        refine (HXR.out _).mono ?_
        rintro e x7 ⟨rfl, hb7⟩
        have HR7 := Lib.hid (Base.then_below HR6.out hb7)
        clear hb7
        try clear q0 q1 q2 q3 y0 y1 y2
        obtain ⟨⟨q0, q1, q2, q3⟩, ⟨y0, y1, y2⟩, hbw7⟩ := HK.out _ HR7.out
        have HB7 := Lib.hid hbw7
        clear hbw7
        cases hrd : rd with
        | true =>
          cases hks : ks with
          | true =>
            by_cases hle : md ≤ sd
            · have HLE := Lib.hid hle
              have HF : Hid (z = 304) := Lib.hid (by rw [HE.out, hf0, if_pos rfl, if_pos True.intro, HE1.out, hb2_, if_neg Bool.false_ne_true, HE2.out, hrd, hks, if_pos ⟨rfl, HLE.out⟩])
              go_wp2
              go_ret
              exact ⟨ret_n HF.out.symm, HB7.out⟩
            · have HLE := Lib.hid hle
              have HF : Hid (z = 200) := Lib.hid (by rw [HE.out, hf0, if_pos rfl, if_pos True.intro, HE1.out, hb2_, if_neg Bool.false_ne_true, HE2.out, if_neg (fun h9 => by have := HLE.out; omega)])
              go_wp2
              go_ret
              exact ⟨ret_n HF.out.symm, HB7.out⟩
          | false =>
            have HF : Hid (z = 200) := Lib.hid (by rw [HE.out, hf0, if_pos rfl, if_pos True.intro, HE1.out, hb2_, if_neg Bool.false_ne_true, HE2.out, hks, Bool.and_false, if_neg (fun h9 => Bool.false_ne_true h9.1)])
            go_wp2
            go_ret
            exact ⟨ret_n HF.out.symm, HB7.out⟩
        | false =>
          have HF : Hid (z = 200) := Lib.hid (by rw [HE.out, hf0, if_pos rfl, if_pos True.intro, HE1.out, hb2_, if_neg Bool.false_ne_true, HE2.out, hrd, Bool.false_and, if_neg (fun h9 => Bool.false_ne_true h9.1)])
          go_wp2
          go_ret
          exact ⟨ret_n HF.out.symm, HB7.out⟩
    | false =>
      have HF : Hid (z = 412) := Lib.hid (by rw [HE.out, hf0, if_pos True.intro, if_neg Bool.false_ne_true])
      go_wp2
      go_ret
      exact ⟨ret_n HF.out.symm, HB2.out⟩
  | false =>
    cases b1 with
    | true =>
      have HFV : Hid (fs = [105, 102, 45, 117, 110, 109, 111, 100, 105, 102, 105, 101, 100, 45, 115, 105, 110, 99, 101]) := Lib.hid (by rw [HFS.out]; rfl)
      rw [HFV.out] at HXF
      clear HFS
      have HB0 := Lib.hid (HK.out _ HR0.out).2.2
      obtain ⟨⟨q0, q1, q2, q3⟩, ⟨y0, y1, y2⟩, _⟩ := HK.out _ HR0.out
      go_wp2_with (fail)
      go_at_call 39
      refine (HXF.out _ HB0.out).mono ?_
      rintro e x1 ⟨rfl, hb1⟩
      have HR1 := Lib.hid (Base.then_below HR0.out hb1)
      clear hb1
      try clear q0 q1 q2 q3 y0 y1 y2
      obtain ⟨⟨q0, q1, q2, q3⟩, ⟨y0, y1, y2⟩, hbw1⟩ := HK.out _ HR1.out
      have HB1 := Lib.hid hbw1
      clear hbw1
      go_wp2_with (fail)
      go_at_call 42
      refine (HXU.out _ HB1.out).mono ?_
      rintro e x2 ⟨rfl, hb2⟩
      have HR2 := Lib.hid (Base.then_below HR1.out hb2)
      clear hb2
      try clear q0 q1 q2 q3 y0 y1 y2
      obtain ⟨⟨q0, q1, q2, q3⟩, ⟨y0, y1, y2⟩, hbw2⟩ := HK.out _ HR2.out
      have HB2 := Lib.hid hbw2
      clear hbw2
      go_wp2_with (fail)
      go_at_call 43
      refine (HXI.out _ HB2.out).mono ?_
      rintro e x3 ⟨rfl, hb3⟩
      have HR3 := Lib.hid (Base.then_below HR2.out hb3)
      clear hb3
      try clear q0 q1 q2 q3 y0 y1 y2
      obtain ⟨⟨q0, q1, q2, q3⟩, ⟨y0, y1, y2⟩, hbw3⟩ := HK.out _ HR3.out
      have HB3 := Lib.hid hbw3
      clear hbw3
      cases hku : ku with
      | true =>
        by_cases hgt : ud < md
        · have HGT := Lib.hid hgt
          have HF : Hid (z = 412) := Lib.hid (by rw [HE.out, if_neg Bool.false_ne_true, hku, if_pos ⟨rfl, HGT.out⟩])
          go_wp2
          go_ret
          exact ⟨ret_n HF.out.symm, HB3.out⟩
        · have HGT := Lib.hid hgt
          go_wp2_with (fail)
          go_at_call 43
          refine (HXN.out _ HB3.out).mono ?_
          rintro e x4 ⟨rfl, hb4⟩
          have HR4 := Lib.hid (Base.then_below HR3.out hb4)
          clear hb4
          try clear q0 q1 q2 q3 y0 y1 y2
          obtain ⟨⟨q0, q1, q2, q3⟩, ⟨y0, y1, y2⟩, hbw4⟩ := HK.out _ HR4.out
          have HB4 := Lib.hid hbw4
          clear hbw4
          cases hb2_ : b2 with
          | true =>
            go_wp2_with (fail)
            go_at_call 44
            refine (HXZ.out _ HB4.out).mono ?_
            rintro e x5 ⟨rfl, hb5⟩
            have HR5 := Lib.hid (Base.then_below HR4.out hb5)
            clear hb5
            try clear q0 q1 q2 q3 y0 y1 y2
            obtain ⟨⟨q0, q1, q2, q3⟩, ⟨y0, y1, y2⟩, hbw5⟩ := HK.out _ HR5.out
            have HB5 := Lib.hid hbw5
            clear hbw5
            have HF : Hid (z = n1) := Lib.hid (by rw [HE.out, if_neg Bool.false_ne_true, if_neg (fun h9 => by have := HGT.out; omega), HE1.out, hb2_, if_pos rfl])
            go_wp2
            go_ret
            exact ⟨ret_n HF.out.symm, HB5.out⟩
          | false =>
            go_wp2_with (fail)
            go_at_call 42
            refine (HXS.out _ HB4.out).mono ?_
            rintro e x5 ⟨rfl, hb5⟩
            have HR5 := Lib.hid (Base.then_below HR4.out hb5)
            clear hb5
            try clear q0 q1 q2 q3 y0 y1 y2
            obtain ⟨⟨q0, q1, q2, q3⟩, ⟨y0, y1, y2⟩, hbw5⟩ := HK.out _ HR5.out
            have HB5 := Lib.hid hbw5
            clear hbw5
            go_wp2_with (fail)
            go_at_call 45
            refine (HXR.out _).mono ?_
            rintro e x6 ⟨rfl, hb6⟩
            have HR6 := Lib.hid (Base.then_below HR5.out hb6)
            clear hb6
            try clear q0 q1 q2 q3 y0 y1 y2
            obtain ⟨⟨q0, q1, q2, q3⟩, ⟨y0, y1, y2⟩, hbw6⟩ := HK.out _ HR6.out
            have HB6 := Lib.hid hbw6
            clear hbw6
            cases hrd : rd with
            | true =>
              cases hks : ks with
              | true =>
                by_cases hle : md ≤ sd
                · have HLE := Lib.hid hle
                  have HF : Hid (z = 304) := Lib.hid (by rw [HE.out, if_neg Bool.false_ne_true, if_neg (fun h9 => by have := HGT.out; omega), HE1.out, hb2_, if_neg Bool.false_ne_true, HE2.out, hrd, hks, if_pos ⟨rfl, HLE.out⟩])
                  go_wp2
                  go_ret
                  exact ⟨ret_n HF.out.symm, HB6.out⟩
                · have HLE := Lib.hid hle
                  have HF : Hid (z = 200) := Lib.hid (by rw [HE.out, if_neg Bool.false_ne_true, if_neg (fun h9 => by have := HGT.out; omega), HE1.out, hb2_, if_neg Bool.false_ne_true, HE2.out, if_neg (fun h9 => by have := HLE.out; omega)])
                  go_wp2
                  go_ret
                  exact ⟨ret_n HF.out.symm, HB6.out⟩
              | false =>
                have HF : Hid (z = 200) := Lib.hid (by rw [HE.out, if_neg Bool.false_ne_true, if_neg (fun h9 => by have := HGT.out; omega), HE1.out, hb2_, if_neg Bool.false_ne_true, HE2.out, hks, Bool.and_false, if_neg (fun h9 => Bool.false_ne_true h9.1)])
                go_wp2
                go_ret
                exact ⟨ret_n HF.out.symm, HB6.out⟩
            | false =>
              have HF : Hid (z = 200) := Lib.hid (by rw [HE.out, if_neg Bool.false_ne_true, if_neg (fun h9 => by have := HGT.out; omega), HE1.out, hb2_, if_neg Bool.false_ne_true, HE2.out, hrd, Bool.false_and, if_neg (fun h9 => Bool.false_ne_true h9.1)])
              go_wp2
              go_ret
              exact ⟨ret_n HF.out.symm, HB6.out⟩
      | false =>
        go_wp2_with (fail)
        go_at_call 43
        refine (HXN.out _ HB3.out).mono ?_
        rintro e x4 ⟨rfl, hb4⟩
        have HR4 := Lib.hid (Base.then_below HR3.out hb4)
        clear hb4
        try clear q0 q1 q2 q3 y0 y1 y2
        obtain ⟨⟨q0, q1, q2, q3⟩, ⟨y0, y1, y2⟩, hbw4⟩ := HK.out _ HR4.out
        have HB4 := Lib.hid hbw4
        clear hbw4
        cases hb2_ : b2 with
        | true =>
          go_wp2_with (fail)
          go_at_call 44
          refine (HXZ.out _ HB4.out).mono ?_
          rintro e x5 ⟨rfl, hb5⟩
          have HR5 := Lib.hid (Base.then_below HR4.out hb5)
          clear hb5
          try clear q0 q1 q2 q3 y0 y1 y2
          obtain ⟨⟨q0, q1, q2, q3⟩, ⟨y0, y1, y2⟩, hbw5⟩ := HK.out _ HR5.out
          have HB5 := Lib.hid hbw5
          clear hbw5
          have HF : Hid (z = n1) := Lib.hid (by rw [HE.out, if_neg Bool.false_ne_true, hku, if_neg (fun h9 => Bool.false_ne_true h9.1), HE1.out, hb2_, if_pos rfl])
          go_wp2
          go_ret
          exact ⟨ret_n HF.out.symm, HB5.out⟩
        | false =>
          go_wp2_with (fail)
          go_at_call 42
          refine (HXS.out _ HB4.out).mono ?_
          rintro e x5 ⟨rfl, hb5⟩
          have HR5 := Lib.hid (Base.then_below HR4.out hb5)
          clear hb5
          try clear q0 q1 q2 q3 y0 y1 y2
          obtain ⟨⟨q0, q1, q2, q3⟩, ⟨y0, y1, y2⟩, hbw5⟩ := HK.out _ HR5.out
          have HB5 := Lib.hid hbw5
          clear hbw5
          go_wp2_with (fail)
          go_at_call 45
          refine (HXR.out _).mono ?_
          rintro e x6 ⟨rfl, hb6⟩
          have HR6 := Lib.hid (Base.then_below HR5.out hb6)
          clear hb6
          try clear q0 q1 q2 q3 y0 y1 y2
          obtain ⟨⟨q0, q1, q2, q3⟩, ⟨y0, y1, y2⟩, hbw6⟩ := HK.out _ HR6.out
          have HB6 := Lib.hid hbw6
          clear hbw6
          cases hrd : rd with
          | true =>
            cases hks : ks with
            | true =>
              by_cases hle : md ≤ sd
              · have HLE := Lib.hid hle
                have HF : Hid (z = 304) := Lib.hid (by rw [HE.out, if_neg Bool.false_ne_true, hku, if_neg (fun h9 => Bool.false_ne_true h9.1), HE1.out, hb2_, if_neg Bool.false_ne_true, HE2.out, hrd, hks, if_pos ⟨rfl, HLE.out⟩])
                go_wp2
                go_ret
                exact ⟨ret_n HF.out.symm, HB6.out⟩
              · have HLE := Lib.hid hle
                have HF : Hid (z = 200) := Lib.hid (by rw [HE.out, if_neg Bool.false_ne_true, hku, if_neg (fun h9 => Bool.false_ne_true h9.1), HE1.out, hb2_, if_neg Bool.false_ne_true, HE2.out, if_neg (fun h9 => by have := HLE.out; omega)])
                go_wp2
                go_ret
                exact ⟨ret_n HF.out.symm, HB6.out⟩
            | false =>
              have HF : Hid (z = 200) := Lib.hid (by rw [HE.out, if_neg Bool.false_ne_true, hku, if_neg (fun h9 => Bool.false_ne_true h9.1), HE1.out, hb2_, if_neg Bool.false_ne_true, HE2.out, hks, Bool.and_false, if_neg (fun h9 => Bool.false_ne_true h9.1)])
              go_wp2
              go_ret
              exact ⟨ret_n HF.out.symm, HB6.out⟩
          | false =>
            have HF : Hid (z = 200) := Lib.hid (by rw [HE.out, if_neg Bool.false_ne_true, hku, if_neg (fun h9 => Bool.false_ne_true h9.1), HE1.out, hb2_, if_neg Bool.false_ne_true, HE2.out, hrd, Bool.false_and, if_neg (fun h9 => Bool.false_ne_true h9.1)])
            go_wp2
            go_ret
            exact ⟨ret_n HF.out.symm, HB6.out⟩
    | false =>
      have HKU := Lib.hid (HUK.out rfl)
      cases b2 with
      | true =>
        have hb2_ : true = true := rfl
        have HFV : Hid (fs = [105, 102, 45, 110, 111, 110, 101, 45, 109, 97, 116, 99, 104]) := Lib.hid (by rw [HFS.out]; rfl)
        rw [HFV.out] at HXF
        clear HFS
        have HB0 := Lib.hid (HK.out _ HR0.out).2.2
        obtain ⟨⟨q0, q1, q2, q3⟩, ⟨y0, y1, y2⟩, _⟩ := HK.out _ HR0.out
        go_wp2_with (fail)
        go_at_call 39
        refine (HXF.out _ HB0.out).mono ?_
        rintro e x1 ⟨rfl, hb1⟩
        have HR1 := Lib.hid (Base.then_below HR0.out hb1)
        clear hb1
        try clear q0 q1 q2 q3 y0 y1 y2
        obtain ⟨⟨q0, q1, q2, q3⟩, ⟨y0, y1, y2⟩, hbw1⟩ := HK.out _ HR1.out
        have HB1 := Lib.hid hbw1
        clear hbw1
        go_wp2_with (fail)
        go_at_call 43
        refine (HXN.out _ HB1.out).mono ?_
        rintro e x2 ⟨rfl, hb2⟩
        have HR2 := Lib.hid (Base.then_below HR1.out hb2)
        clear hb2
        try clear q0 q1 q2 q3 y0 y1 y2
        obtain ⟨⟨q0, q1, q2, q3⟩, ⟨y0, y1, y2⟩, hbw2⟩ := HK.out _ HR2.out
        have HB2 := Lib.hid hbw2
        clear hbw2
        go_wp2_with (fail)
        go_at_call 44
        refine (HXZ.out _ HB2.out).mono ?_
        rintro e x3 ⟨rfl, hb3⟩
        have HR3 := Lib.hid (Base.then_below HR2.out hb3)
        clear hb3
        try clear q0 q1 q2 q3 y0 y1 y2
        obtain ⟨⟨q0, q1, q2, q3⟩, ⟨y0, y1, y2⟩, hbw3⟩ := HK.out _ HR3.out
        have HB3 := Lib.hid hbw3
        clear hbw3
        have HF : Hid (z = n1) := Lib.hid (by rw [HE.out, if_neg Bool.false_ne_true, HKU.out, if_neg (fun h9 => Bool.false_ne_true h9.1), HE1.out, if_pos True.intro])
        go_wp2
        go_ret
        exact ⟨ret_n HF.out.symm, HB3.out⟩
      | false =>
        cases b3 with
        | true =>
          have HFV : Hid (fs = [105, 102, 45, 109, 111, 100, 105, 102, 105, 101, 100, 45, 115, 105, 110, 99, 101]) := Lib.hid (by rw [HFS.out]; rfl)
          rw [HFV.out] at HXF
          clear HFS
          have HB0 := Lib.hid (HK.out _ HR0.out).2.2
          obtain ⟨⟨q0, q1, q2, q3⟩, ⟨y0, y1, y2⟩, _⟩ := HK.out _ HR0.out
          go_wp2_with (fail)
          go_at_call 39
          refine (HXF.out _ HB0.out).mono ?_
          rintro e x1 ⟨rfl, hb1⟩
          have HR1 := Lib.hid (Base.then_below HR0.out hb1)
          clear hb1
          try clear q0 q1 q2 q3 y0 y1 y2
          obtain ⟨⟨q0, q1, q2, q3⟩, ⟨y0, y1, y2⟩, hbw1⟩ := HK.out _ HR1.out
          have HB1 := Lib.hid hbw1
          clear hbw1
          go_wp2_with (fail)
          go_at_call 42
          refine (HXS.out _ HB1.out).mono ?_
          rintro e x2 ⟨rfl, hb2⟩
          have HR2 := Lib.hid (Base.then_below HR1.out hb2)
          clear hb2
          try clear q0 q1 q2 q3 y0 y1 y2
          obtain ⟨⟨q0, q1, q2, q3⟩, ⟨y0, y1, y2⟩, hbw2⟩ := HK.out _ HR2.out
          have HB2 := Lib.hid hbw2
          clear hbw2
          go_wp2_with (fail)
          go_at_call 45
          refine (HXR.out _).mono ?_
          rintro e x3 ⟨rfl, hb3⟩
          have HR3 := Lib.hid (Base.then_below HR2.out hb3)
          clear hb3
          try clear q0 q1 q2 q3 y0 y1 y2
          obtain ⟨⟨q0, q1, q2, q3⟩, ⟨y0, y1, y2⟩, hbw3⟩ := HK.out _ HR3.out
          have HB3 := Lib.hid hbw3
          clear hbw3
          cases hrd : rd with
          | true =>
            cases hks : ks with
            | true =>
              by_cases hle : md ≤ sd
              · have HLE := Lib.hid hle
                have HF : Hid (z = 304) := Lib.hid (by rw [HE.out, if_neg Bool.false_ne_true, HKU.out, if_neg (fun h9 => Bool.false_ne_true h9.1), HE1.out, if_neg Bool.false_ne_true, HE2.out, hrd, hks, if_pos ⟨rfl, HLE.out⟩])
                go_wp2
                go_ret
                exact ⟨ret_n HF.out.symm, HB3.out⟩
              · have HLE := Lib.hid hle
                have HF : Hid (z = 200) := Lib.hid (by rw [HE.out, if_neg Bool.false_ne_true, HKU.out, if_neg (fun h9 => Bool.false_ne_true h9.1), HE1.out, if_neg Bool.false_ne_true, HE2.out, if_neg (fun h9 => by have := HLE.out; omega)])
                go_wp2
                go_ret
                exact ⟨ret_n HF.out.symm, HB3.out⟩
            | false =>
              have HF : Hid (z = 200) := Lib.hid (by rw [HE.out, if_neg Bool.false_ne_true, HKU.out, if_neg (fun h9 => Bool.false_ne_true h9.1), HE1.out, if_neg Bool.false_ne_true, HE2.out, hks, Bool.and_false, if_neg (fun h9 => Bool.false_ne_true h9.1)])
              go_wp2
              go_ret
              exact ⟨ret_n HF.out.symm, HB3.out⟩
          | false =>
            have HF : Hid (z = 200) := Lib.hid (by rw [HE.out, if_neg Bool.false_ne_true, HKU.out, if_neg (fun h9 => Bool.false_ne_true h9.1), HE1.out, if_neg Bool.false_ne_true, HE2.out, hrd, Bool.false_and, if_neg (fun h9 => Bool.false_ne_true h9.1)])
            go_wp2
            go_ret
            exact ⟨ret_n HF.out.symm, HB3.out⟩
        | false =>
          have HKS := Lib.hid (HSK.out rfl)
          have HFV : Hid (fs = []) := Lib.hid (by rw [HFS.out]; rfl)
          rw [HFV.out] at HXF
          clear HFS
          have HB0 := Lib.hid (HK.out _ HR0.out).2.2
          obtain ⟨⟨q0, q1, q2, q3⟩, ⟨y0, y1, y2⟩, _⟩ := HK.out _ HR0.out
          go_wp2_with (fail)
          go_at_call 39
          refine (HXF.out _ HB0.out).mono ?_
          rintro e x1 ⟨rfl, hb1⟩
          have HR1 := Lib.hid (Base.then_below HR0.out hb1)
          clear hb1
          try clear q0 q1 q2 q3 y0 y1 y2
          obtain ⟨⟨q0, q1, q2, q3⟩, ⟨y0, y1, y2⟩, hbw1⟩ := HK.out _ HR1.out
          have HB1 := Lib.hid hbw1
          clear hbw1
          have HF : Hid (z = 200) := Lib.hid (by rw [HE.out, if_neg Bool.false_ne_true, HKU.out, if_neg (fun h9 => Bool.false_ne_true h9.1), HE1.out, if_neg Bool.false_ne_true, HE2.out, HKS.out, Bool.and_false, if_neg (fun h9 => Bool.false_ne_true h9.1)])
          go_wp2
          go_ret
          exact ⟨ret_n HF.out.symm, HB1.out⟩
end Go.Proofs.YtddpfhcmifnagaaGreatDoor.Cnd
