/-
  CONTRACTS AND PLAIN FACTS, several texts in one; each says in its own words what it proves.
-/
import Derived.Test.YtddpfhcmifnagaaGreatDoorPcAH

/-
  CONTRACT of the model's CheckConditions; nothing that was there before is changed.
-/
namespace Go.Proofs.YtddpfhcmifnagaaGreatDoor.Cnd
open Go Go.RowKit
set_option linter.unusedVariables false
set_option maxRecDepth 1000000

theorem fits_any (sm : G → G → Bool) (n : List UInt8) (l m : List Flds.Fld) : anyOf sm (Flds.got n l) (Rgh.atag m).1 (Rgh.atag m).2 = (fits sm n l m, !(Tgs.ptl (Flds.got n l)).2.2) := rfl
theorem fits_bad {sm : G → G → Bool} {n : List UInt8} {l m : List Flds.Fld} (h : (Tgs.ptl (Flds.got n l)).2.2 = false) : fits sm n l m = false := by unfold fits; rw [h]; rfl

set_option maxHeartbeats 32000000 in
theorem spec_cond (me ho t : List UInt8) (u : Value) (l : List Flds.Fld) (c : Int) (v : Value) (m : List Flds.Fld) (b : List UInt8) (B : Nat) (w : World) (h : Flds.Holds w B u l) (h2 : Flds.Holds w B v m) (hB : B ≤ w.heap.size) (hl : Flds.total l ≤ 1048576) (hm : Flds.total m ≤ 1048576) :
    Calls Tryz.prog 16 #[.agg #[.string ⟨me.toArray⟩, .string ⟨ho.toArray⟩, .string ⟨t.toArray⟩, u], .agg #[.int .i64 c, v, .string ⟨b.toArray⟩]] w (NumEnd (cond me l m) w) := by
  have hb0 : Below w.heap.size w ((w.alloc (.cells #[.string ⟨me.toArray⟩, .string ⟨ho.toArray⟩, .string ⟨t.toArray⟩, u] 32)).alloc (.cells #[.int .i64 c, v, .string ⟨b.toArray⟩] 35)) := (((Below.refl _ _).alloc (Nat.le_refl _) _).alloc (by simp) _)
  have HR0 : Hid (Below ((w.alloc (.cells #[.string ⟨me.toArray⟩, .string ⟨ho.toArray⟩, .string ⟨t.toArray⟩, u] 32)).alloc (.cells #[.int .i64 c, v, .string ⟨b.toArray⟩] 35)).heap.size ((w.alloc (.cells #[.string ⟨me.toArray⟩, .string ⟨ho.toArray⟩, .string ⟨t.toArray⟩, u] 32)).alloc (.cells #[.int .i64 c, v, .string ⟨b.toArray⟩] 35)) ((w.alloc (.cells #[.string ⟨me.toArray⟩, .string ⟨ho.toArray⟩, .string ⟨t.toArray⟩, u] 32)).alloc (.cells #[.int .i64 c, v, .string ⟨b.toArray⟩] 35))) := Lib.hid (Below.refl _ _)
  have HK := Lib.hid (fun W => keep2 (w := w) (W := W) (T := 32) (T' := 35) (a := .string ⟨me.toArray⟩) (b := .string ⟨ho.toArray⟩) (c := .string ⟨t.toArray⟩) (d := u) (a' := .int .i64 c) (b' := v) (c' := .string ⟨b.toArray⟩))
  have s0 := Rgh.got_short (n := Rgh.etagN) (by decide) m
  have s1 := Rgh.got_short (n := Rgh.modN) (by decide) m
  have s2 := Rgh.got_short (n := imN) (by decide) l
  have s3 := Rgh.got_short (n := iuN) (by decide) l
  have s4 := Rgh.got_short (n := inN) (by decide) l
  have s5 := Rgh.got_short (n := isN) (by decide) l
  have HXE := Lib.hid (fun W (hb : Below w.heap.size w W) => Flds.spec_lget v B m Rgh.etagN W (Flds.holds_below h2 (hb.mono hB)) (by omega))
  have HXL := Lib.hid (fun W (hb : Below w.heap.size w W) => Flds.spec_lget v B m Rgh.modN W (Flds.holds_below h2 (hb.mono hB)) (by omega))
  have HXT := Lib.hid (fun W => Tgs.spec_ptag (Flds.got Rgh.etagN m) W (by omega))
  have HXD := Lib.hid (fun W => Dt.spec_pdate (Flds.got Rgh.modN m) W (by omega))
  have HGG := Lib.hid (fun n W (hb : Below w.heap.size w W) => Flds.spec_get u B l n W (Flds.holds_below h (hb.mono hB)) (by omega))
  have HGI := Lib.hid (HGG.out imN)
  have HGU := Lib.hid (HGG.out iuN)
  have HGN := Lib.hid (HGG.out inN)
  have HGS := Lib.hid (HGG.out isN)
  have HDU := Lib.hid (fun W => Dt.spec_pdate (Flds.got iuN l) W (by omega))
  have HDS := Lib.hid (fun W => Dt.spec_pdate (Flds.got isN l) W (by omega))
  have HAS := Lib.hid (fun W => spec_any_strong (Flds.got imN l) (Rgh.atag m).1.1 (Rgh.atag m).1.2 (Rgh.atag m).2 W (by omega))
  have HAW := Lib.hid (fun W => spec_any_weak (Flds.got inN l) (Rgh.atag m).1.1 (Rgh.atag m).1.2 (Rgh.atag m).2 W (by omega))
  unfold Flds.GotEnd at HXE HXL
  unfold Tgs.ParEnd at HXT
  unfold Dt.PdEnd at HXD HDU HDS
  unfold Flds.GetEnd at HGI HGU HGN HGS
  unfold AnyEnd at HAS HAW
  rw [show anyOf Tgs.samestrong (Flds.got imN l) ((Rgh.atag m).1.1, (Rgh.atag m).1.2) (Rgh.atag m).2 = (fits Tgs.samestrong imN l m, !(Tgs.ptl (Flds.got imN l)).2.2) from rfl] at HAS
  rw [show anyOf Tgs.sameweak (Flds.got inN l) ((Rgh.atag m).1.1, (Rgh.atag m).1.2) (Rgh.atag m).2 = (fits Tgs.sameweak inN l m, !(Tgs.ptl (Flds.got inN l)).2.2) from rfl] at HAW
  have HBD := Lib.hid (fits_bad (sm := Tgs.sameweak) (n := inN) (l := l) (m := m))
  simp only at HAS HAW
  have HE : Hid (cond me l m = if Flds.has l imN = true then (if fits Tgs.samestrong imN l m = true then rest1 me l m else 412) else if ((Age.din Rgh.modN m).2 && (Age.din iuN l).2) = true ∧ (Age.din iuN l).1 < (Age.din Rgh.modN m).1 then 412 else rest1 me l m) := Lib.hid rfl
  have HE1 : Hid (rest1 me l m = if Flds.has l inN = true then none1 me l m else rest2 me l m) := Lib.hid rfl
  have HE2 : Hid (rest2 me l m = if (reads me && ((Age.din Rgh.modN m).2 && (Age.din isN l).2)) = true ∧ (Age.din Rgh.modN m).1 ≤ (Age.din isN l).1 then 304 else 200) := Lib.hid rfl
  have HE3 : Hid (none1 me l m = if fits Tgs.sameweak inN l m = true then (if reads me = true then 304 else 412) else 200) := Lib.hid rfl
  have HUN := Lib.hid (din_none (n := iuN) (l := l))
  have HSN := Lib.hid (din_none (n := isN) (l := l))
  have hj0 : ∀ n, Tx.join (Flds.vals n l) = Flds.got n l := fun _ => rfl
  rw [hj0, Flds.has_vals] at HGI HGU HGN HGS
  unfold Age.din at HE HE2 HUN HSN
  unfold Rgh.atag at HAS HAW
  generalize cond me l m = z at HE ⊢
  generalize rest1 me l m = r1 at HE HE1
  generalize rest2 me l m = r2 at HE1 HE2
  generalize none1 me l m = n1 at HE1 HE3
  generalize Flds.has l imN = b0 at HGI HE
  generalize Flds.has l iuN = b1 at HGU HUN
  generalize Flds.has l inN = b2 at HGN HE1
  generalize Flds.has l isN = b3 at HGS HSN
  generalize fits Tgs.samestrong imN l m = f0 at HAS HE
  generalize fits Tgs.sameweak inN l m = f1 at HAW HE3 HBD
  generalize (Tgs.ptl (Flds.got inN l)).2.2 = kn at HAW HBD
  generalize (Tgs.ptl (Flds.got imN l)).2.2 = ki at HAS
  generalize Flds.got Rgh.etagN m = ge at HXE HXT HAS HAW
  generalize Flds.got Rgh.modN m = gm at HXL HXD HE HE2
  generalize Flds.got imN l = gi at HGI HAS
  generalize Flds.got iuN l = gu at HGU HDU HE HUN
  generalize Flds.got inN l = gn at HGN HAW
  generalize Flds.got isN l = gs at HGS HDS HE2 HSN
  generalize Tgs.ptag ge = tg at HXT HAS HAW
  generalize Dt.pdate gm = dm at HXD HE HE2
  generalize Dt.pdate gu = du at HDU HE HUN
  generalize Dt.pdate gs = ds at HDS HE2 HSN
  obtain ⟨⟨gx, gy⟩, gk⟩ := tg
  obtain ⟨ud, uk⟩ := du
  obtain ⟨sd, sk⟩ := ds
  obtain ⟨md, mk⟩ := dm
  simp only at HXT HXD HDU HDS HAS HAW HE HE2 HUN HSN
  unfold Rgh.etagN at HXE
  unfold Rgh.modN at HXL
  unfold imN at HGI
  unfold iuN at HGU
  unfold inN at HGN
  unfold isN at HGS
  unfold NumEnd
  have hme : (me = [71, 69, 84] ∧ reads me = true) ∨ ((me == [71, 69, 84]) = false ∧ me = [72, 69, 65, 68] ∧ reads me = true) ∨ ((me == [71, 69, 84]) = false ∧ (me == [72, 69, 65, 68]) = false ∧ reads me = false) := by
    by_cases e1 : me = [71, 69, 84]
    · left; exact ⟨e1, by rw [e1]; rfl⟩
    · have q1 : (me == [71, 69, 84]) = false := by simpa using e1
      by_cases e2 : me = [72, 69, 65, 68]
      · right; left; exact ⟨q1, e2, by rw [e2]; rfl⟩
      · have q2 : (me == [72, 69, 65, 68]) = false := by simpa using e2
        right; right; exact ⟨q1, q2, by unfold reads; rw [q1, q2]; rfl⟩
  clear h h2 hl hm hb0 s0 s1 s2 s3 s4 s5 HGG hj0
  rcases hme with ⟨hmv, hrd⟩ | ⟨hm1, hmv, hrd⟩ | ⟨hm1, hm2, hrd⟩
  · subst hmv
    have HRD := Lib.hid hrd
    clear hrd
    go_enter Tryz.func16, Tryz.ntmps16
    have HB0 := Lib.hid (HK.out _ HR0.out).2.2
    obtain ⟨⟨q0, q1, q2, q3⟩, ⟨y0, y1, y2⟩, _⟩ := HK.out _ HR0.out
    go_wp2_with (fail)
    go_at_call 35
    refine (HXE.out _ HB0.out).mono ?_
    rintro e x1 ⟨rfl, hb1⟩
    have HR1 := Lib.hid (Base.then_below HR0.out hb1)
    clear hb1
    try clear q0 q1 q2 q3 y0 y1 y2
    obtain ⟨⟨q0, q1, q2, q3⟩, ⟨y0, y1, y2⟩, hbw1⟩ := HK.out _ HR1.out
    have HB1 := Lib.hid hbw1
    clear hbw1
    go_wp2_with (fail)
    go_at_call 34
    refine (HXT.out _).mono ?_
    rintro e x2 ⟨rfl, hb2⟩
    have HR2 := Lib.hid (Base.then_below HR1.out hb2)
    clear hb2
    try clear q0 q1 q2 q3 y0 y1 y2
    obtain ⟨⟨q0, q1, q2, q3⟩, ⟨y0, y1, y2⟩, hbw2⟩ := HK.out _ HR2.out
    have HB2 := Lib.hid hbw2
    clear hbw2
    have hba : Below x2.heap.size x2 (x2.alloc (.cells #[.bool gx, .string ⟨gy.toArray⟩] 62)) := (Below.refl _ _).alloc (Nat.le_refl _) _
    have HR3 := Lib.hid (Base.then_below HR2.out hba)
    have HT3 := Lib.hid (Below.refl (x2.alloc (.cells #[.bool gx, .string ⟨gy.toArray⟩] 62)).heap.size (x2.alloc (.cells #[.bool gx, .string ⟨gy.toArray⟩] 62)))
    have HKT : Hid (∀ W, Below (x2.alloc (.cells #[.bool gx, .string ⟨gy.toArray⟩] 62)).heap.size (x2.alloc (.cells #[.bool gx, .string ⟨gy.toArray⟩] 62)) W → W.cell? ⟨x2.heap.size, 0, none⟩ = some (.bool gx) ∧ W.cell? ⟨x2.heap.size, 1, none⟩ = some (.string ⟨gy.toArray⟩)) := Lib.hid (fun W hb => And.intro ((Kept.one hb).1 0 _ rfl) ((Kept.one hb).1 1 _ rfl))
    clear hba
    try clear q0 q1 q2 q3 y0 y1 y2
    obtain ⟨⟨q0, q1, q2, q3⟩, ⟨y0, y1, y2⟩, hbw3⟩ := HK.out _ HR3.out
    have HB3 := Lib.hid hbw3
    clear hbw3
    try clear g0 g1
    have g0 := (HKT.out _ HT3.out).1
    have g1 := (HKT.out _ HT3.out).2
    go_wp2_with (fail)
    go_at_call 35
    refine (HXL.out _ HB3.out).mono ?_
    rintro e x4 ⟨rfl, hb4⟩
    have HR4 := Lib.hid (Base.then_below HR3.out hb4)
    have HT4 := Lib.hid (Base.then_below HT3.out hb4)
    clear hb4
    try clear q0 q1 q2 q3 y0 y1 y2
    obtain ⟨⟨q0, q1, q2, q3⟩, ⟨y0, y1, y2⟩, hbw4⟩ := HK.out _ HR4.out
    have HB4 := Lib.hid hbw4
    clear hbw4
    try clear g0 g1
    have g0 := (HKT.out _ HT4.out).1
    have g1 := (HKT.out _ HT4.out).2
    go_wp2_with (fail)
    go_at_call 36
    refine (HXD.out _).mono ?_
    rintro e x5 ⟨rfl, hb5⟩
    have HR5 := Lib.hid (Base.then_below HR4.out hb5)
    have HT5 := Lib.hid (Base.then_below HT4.out hb5)
    clear hb5
    try clear q0 q1 q2 q3 y0 y1 y2
    obtain ⟨⟨q0, q1, q2, q3⟩, ⟨y0, y1, y2⟩, hbw5⟩ := HK.out _ HR5.out
    have HB5 := Lib.hid hbw5
    clear hbw5
    try clear g0 g1
    have g0 := (HKT.out _ HT5.out).1
    have g1 := (HKT.out _ HT5.out).2
    go_wp2_with (fail)
    go_at_call 37
    refine (HGI.out _ HB5.out).mono ?_
    rintro e x6 ⟨rfl, hb6⟩
    have HR6 := Lib.hid (Base.then_below HR5.out hb6)
    have HT6 := Lib.hid (Base.then_below HT5.out hb6)
    clear hb6
    try clear q0 q1 q2 q3 y0 y1 y2
    obtain ⟨⟨q0, q1, q2, q3⟩, ⟨y0, y1, y2⟩, hbw6⟩ := HK.out _ HR6.out
    have HB6 := Lib.hid hbw6
    clear hbw6
    try clear g0 g1
    have g0 := (HKT.out _ HT6.out).1
    have g1 := (HKT.out _ HT6.out).2
    cases hb0_ : b0 with
    | true =>
      go_wp2_with (fail)
      go_at_call 38
      refine (HAS.out _).mono ?_
      rintro e x7 ⟨rfl, hb7⟩
      have HR7 := Lib.hid (Base.then_below HR6.out hb7)
      have HT7 := Lib.hid (Base.then_below HT6.out hb7)
      clear hb7
      try clear q0 q1 q2 q3 y0 y1 y2
      obtain ⟨⟨q0, q1, q2, q3⟩, ⟨y0, y1, y2⟩, hbw7⟩ := HK.out _ HR7.out
      have HB7 := Lib.hid hbw7
      clear hbw7
      try clear g0 g1
      have g0 := (HKT.out _ HT7.out).1
      have g1 := (HKT.out _ HT7.out).2
      cases hf0 : f0 with
      | true =>
        go_wp2_with (fail)
        go_at_call 37
        refine (HGN.out _ HB7.out).mono ?_
        rintro e x8 ⟨rfl, hb8⟩
        have HR8 := Lib.hid (Base.then_below HR7.out hb8)
        have HT8 := Lib.hid (Base.then_below HT7.out hb8)
        clear hb8
        try clear q0 q1 q2 q3 y0 y1 y2
        obtain ⟨⟨q0, q1, q2, q3⟩, ⟨y0, y1, y2⟩, hbw8⟩ := HK.out _ HR8.out
        have HB8 := Lib.hid hbw8
        clear hbw8
        try clear g0 g1
        have g0 := (HKT.out _ HT8.out).1
        have g1 := (HKT.out _ HT8.out).2
        cases hb2_ : b2 with
        | true =>
          go_wp2_with (fail)
          go_at_call 38
          refine (HAW.out _).mono ?_
          rintro e x9 ⟨rfl, hb9⟩
          have HR9 := Lib.hid (Base.then_below HR8.out hb9)
          have HT9 := Lib.hid (Base.then_below HT8.out hb9)
          clear hb9
          try clear q0 q1 q2 q3 y0 y1 y2
          obtain ⟨⟨q0, q1, q2, q3⟩, ⟨y0, y1, y2⟩, hbw9⟩ := HK.out _ HR9.out
          have HB9 := Lib.hid hbw9
          clear hbw9
          try clear g0 g1
          have g0 := (HKT.out _ HT9.out).1
          have g1 := (HKT.out _ HT9.out).2
          cases hkn : kn with
          | true =>
            cases hf1 : f1 with
            | true =>
              have HF : Hid (z = 304) := Lib.hid (by rw [HE.out, hb0_, if_pos rfl, hf0, if_pos rfl, HE1.out, hb2_, if_pos rfl, HE3.out, hf1, if_pos rfl, HRD.out, if_pos rfl])
              go_wp2
              go_ret
              exact ⟨ret_n HF.out.symm, HB9.out⟩
            | false =>
              have HF : Hid (z = 200) := Lib.hid (by rw [HE.out, hb0_, if_pos rfl, hf0, if_pos rfl, HE1.out, hb2_, if_pos rfl, HE3.out, hf1, if_neg Bool.false_ne_true])
              go_wp2
              go_ret
              exact ⟨ret_n HF.out.symm, HB9.out⟩
          | false =>
            have hf1 := HBD.out hkn
            have HF : Hid (z = 200) := Lib.hid (by rw [HE.out, hb0_, if_pos rfl, hf0, if_pos rfl, HE1.out, hb2_, if_pos rfl, HE3.out, hf1, if_neg Bool.false_ne_true])
            go_wp2
            go_ret
            exact ⟨ret_n HF.out.symm, HB9.out⟩
        | false =>
          go_wp2_with (fail)
          go_at_call 37
          refine (HGS.out _ HB8.out).mono ?_
          rintro e x9 ⟨rfl, hb9⟩
          have HR9 := Lib.hid (Base.then_below HR8.out hb9)
          have HT9 := Lib.hid (Base.then_below HT8.out hb9)
          clear hb9
          try clear q0 q1 q2 q3 y0 y1 y2
          obtain ⟨⟨q0, q1, q2, q3⟩, ⟨y0, y1, y2⟩, hbw9⟩ := HK.out _ HR9.out
          have HB9 := Lib.hid hbw9
          clear hbw9
          try clear g0 g1
          have g0 := (HKT.out _ HT9.out).1
          have g1 := (HKT.out _ HT9.out).2
          cases hb3_ : b3 with
          | true =>
            go_wp2_with (fail)
            go_at_call 36
            refine (HDS.out _).mono ?_
            rintro e x10 ⟨rfl, hb10⟩
            have HR10 := Lib.hid (Base.then_below HR9.out hb10)
            have HT10 := Lib.hid (Base.then_below HT9.out hb10)
            clear hb10
            try clear q0 q1 q2 q3 y0 y1 y2
            obtain ⟨⟨q0, q1, q2, q3⟩, ⟨y0, y1, y2⟩, hbw10⟩ := HK.out _ HR10.out
            have HB10 := Lib.hid hbw10
            clear hbw10
            try clear g0 g1
            have g0 := (HKT.out _ HT10.out).1
            have g1 := (HKT.out _ HT10.out).2
            cases hsk : sk with
            | true =>
              cases hmk : mk with
              | true =>
                by_cases hle : md ≤ sd
                · have HLE := Lib.hid hle
                  have HF : Hid (z = 304) := Lib.hid (by rw [HE.out, hb0_, if_pos rfl, hf0, if_pos rfl, HE1.out, hb2_, if_neg Bool.false_ne_true, HE2.out, HRD.out, hsk, hmk, if_pos ⟨rfl, HLE.out⟩])
                  go_wp2
                  go_ret
                  exact ⟨ret_n HF.out.symm, HB10.out⟩
                · have HLE := Lib.hid hle
                  have HF : Hid (z = 200) := Lib.hid (by rw [HE.out, hb0_, if_pos rfl, hf0, if_pos rfl, HE1.out, hb2_, if_neg Bool.false_ne_true, HE2.out, if_neg (fun h9 => by have := HLE.out; omega)])
                  go_wp2
                  go_ret
                  exact ⟨ret_n HF.out.symm, HB10.out⟩
              | false =>
                have HF : Hid (z = 200) := Lib.hid (by rw [HE.out, hb0_, if_pos rfl, hf0, if_pos rfl, HE1.out, hb2_, if_neg Bool.false_ne_true, HE2.out, hmk, Bool.false_and, Bool.and_false, if_neg (fun h9 => Bool.false_ne_true h9.1)])
                go_wp2
                go_ret
                exact ⟨ret_n HF.out.symm, HB10.out⟩
            | false =>
              have HF : Hid (z = 200) := Lib.hid (by rw [HE.out, hb0_, if_pos rfl, hf0, if_pos rfl, HE1.out, hb2_, if_neg Bool.false_ne_true, HE2.out, hsk, Bool.and_false, Bool.and_false, if_neg (fun h9 => Bool.false_ne_true h9.1)])
              go_wp2
              go_ret
              exact ⟨ret_n HF.out.symm, HB10.out⟩
          | false =>
            have HF : Hid (z = 200) := Lib.hid (by rw [HE.out, hb0_, if_pos rfl, hf0, if_pos rfl, HE1.out, hb2_, if_neg Bool.false_ne_true, HE2.out, HSN.out hb3_, Bool.and_false, Bool.and_false, if_neg (fun h9 => Bool.false_ne_true h9.1)])
            go_wp2
            go_ret
            exact ⟨ret_n HF.out.symm, HB9.out⟩
      | false =>
        have HF : Hid (z = 412) := Lib.hid (by rw [HE.out, hb0_, if_pos rfl, hf0, if_neg Bool.false_ne_true])
        go_wp2
        go_ret
        exact ⟨ret_n HF.out.symm, HB7.out⟩
    | false =>
      go_wp2_with (fail)
      go_at_call 37
      refine (HGU.out _ HB6.out).mono ?_
      rintro e x7 ⟨rfl, hb7⟩
      have HR7 := Lib.hid (Base.then_below HR6.out hb7)
      have HT7 := Lib.hid (Base.then_below HT6.out hb7)
      clear hb7
      try clear q0 q1 q2 q3 y0 y1 y2
      obtain ⟨⟨q0, q1, q2, q3⟩, ⟨y0, y1, y2⟩, hbw7⟩ := HK.out _ HR7.out
      have HB7 := Lib.hid hbw7
      clear hbw7
      try clear g0 g1
      have g0 := (HKT.out _ HT7.out).1
      have g1 := (HKT.out _ HT7.out).2
      cases hb1_ : b1 with
      | true =>
        go_wp2_with (fail)
        go_at_call 36
        refine (HDU.out _).mono ?_
        rintro e x8 ⟨rfl, hb8⟩
        have HR8 := Lib.hid (Base.then_below HR7.out hb8)
        have HT8 := Lib.hid (Base.then_below HT7.out hb8)
        clear hb8
        try clear q0 q1 q2 q3 y0 y1 y2
        obtain ⟨⟨q0, q1, q2, q3⟩, ⟨y0, y1, y2⟩, hbw8⟩ := HK.out _ HR8.out
        have HB8 := Lib.hid hbw8
        clear hbw8
        try clear g0 g1
        have g0 := (HKT.out _ HT8.out).1
        have g1 := (HKT.out _ HT8.out).2
        cases huk : uk with
        | true =>
          cases hmk : mk with
          | true =>
            by_cases hgt : ud < md
            · have HGT := Lib.hid hgt
              have HF : Hid (z = 412) := Lib.hid (by rw [HE.out, hb0_, if_neg Bool.false_ne_true, huk, hmk, if_pos ⟨rfl, HGT.out⟩])
              go_wp2
              go_ret
              exact ⟨ret_n HF.out.symm, HB8.out⟩
            · have HGT := Lib.hid hgt
              go_wp2_with (fail)
              go_at_call 37
              refine (HGN.out _ HB8.out).mono ?_
              rintro e x9 ⟨rfl, hb9⟩
              have HR9 := Lib.hid (Base.then_below HR8.out hb9)
              have HT9 := Lib.hid (Base.then_below HT8.out hb9)
              clear hb9
              try clear q0 q1 q2 q3 y0 y1 y2
              obtain ⟨⟨q0, q1, q2, q3⟩, ⟨y0, y1, y2⟩, hbw9⟩ := HK.out _ HR9.out
              have HB9 := Lib.hid hbw9
              clear hbw9
              try clear g0 g1
              have g0 := (HKT.out _ HT9.out).1
              have g1 := (HKT.out _ HT9.out).2
              cases hb2_ : b2 with
              | true =>
                go_wp2_with (fail)
                go_at_call 38
                refine (HAW.out _).mono ?_
                rintro e x10 ⟨rfl, hb10⟩
                have HR10 := Lib.hid (Base.then_below HR9.out hb10)
                have HT10 := Lib.hid (Base.then_below HT9.out hb10)
                clear hb10
                try clear q0 q1 q2 q3 y0 y1 y2
                obtain ⟨⟨q0, q1, q2, q3⟩, ⟨y0, y1, y2⟩, hbw10⟩ := HK.out _ HR10.out
                have HB10 := Lib.hid hbw10
                clear hbw10
                try clear g0 g1
                have g0 := (HKT.out _ HT10.out).1
                have g1 := (HKT.out _ HT10.out).2
                cases hkn : kn with
                | true =>
                  cases hf1 : f1 with
                  | true =>
                    have HF : Hid (z = 304) := Lib.hid (by rw [HE.out, hb0_, if_neg Bool.false_ne_true, if_neg (fun h9 => by have := HGT.out; omega), HE1.out, hb2_, if_pos rfl, HE3.out, hf1, if_pos rfl, HRD.out, if_pos rfl])
                    go_wp2
                    go_ret
                    exact ⟨ret_n HF.out.symm, HB10.out⟩
                  | false =>
                    have HF : Hid (z = 200) := Lib.hid (by rw [HE.out, hb0_, if_neg Bool.false_ne_true, if_neg (fun h9 => by have := HGT.out; omega), HE1.out, hb2_, if_pos rfl, HE3.out, hf1, if_neg Bool.false_ne_true])
                    go_wp2
                    go_ret
                    exact ⟨ret_n HF.out.symm, HB10.out⟩
                | false =>
                  have hf1 := HBD.out hkn
                  have HF : Hid (z = 200) := Lib.hid (by rw [HE.out, hb0_, if_neg Bool.false_ne_true, if_neg (fun h9 => by have := HGT.out; omega), HE1.out, hb2_, if_pos rfl, HE3.out, hf1, if_neg Bool.false_ne_true])
                  go_wp2
                  go_ret
                  exact ⟨ret_n HF.out.symm, HB10.out⟩
              | false =>
                go_wp2_with (fail)
                go_at_call 37
                refine (HGS.out _ HB9.out).mono ?_
                rintro e x10 ⟨rfl, hb10⟩
                have HR10 := Lib.hid (Base.then_below HR9.out hb10)
                have HT10 := Lib.hid (Base.then_below HT9.out hb10)
                clear hb10
                try clear q0 q1 q2 q3 y0 y1 y2
                obtain ⟨⟨q0, q1, q2, q3⟩, ⟨y0, y1, y2⟩, hbw10⟩ := HK.out _ HR10.out
                have HB10 := Lib.hid hbw10
                clear hbw10
                try clear g0 g1
                have g0 := (HKT.out _ HT10.out).1
                have g1 := (HKT.out _ HT10.out).2
                cases hb3_ : b3 with
                | true =>
                  go_wp2_with (fail)
                  go_at_call 36
                  refine (HDS.out _).mono ?_
                  rintro e x11 ⟨rfl, hb11⟩
                  have HR11 := Lib.hid (Base.then_below HR10.out hb11)
                  have HT11 := Lib.hid (Base.then_below HT10.out hb11)
                  clear hb11
                  try clear q0 q1 q2 q3 y0 y1 y2
                  obtain ⟨⟨q0, q1, q2, q3⟩, ⟨y0, y1, y2⟩, hbw11⟩ := HK.out _ HR11.out
                  have HB11 := Lib.hid hbw11
                  clear hbw11
                  try clear g0 g1
                  have g0 := (HKT.out _ HT11.out).1
                  have g1 := (HKT.out _ HT11.out).2
                  cases hsk : sk with
                  | true =>
                    by_cases hle : md ≤ sd
                    · have HLE := Lib.hid hle
                      have HF : Hid (z = 304) := Lib.hid (by rw [HE.out, hb0_, if_neg Bool.false_ne_true, if_neg (fun h9 => by have := HGT.out; omega), HE1.out, hb2_, if_neg Bool.false_ne_true, HE2.out, HRD.out, hsk, hmk, if_pos ⟨rfl, HLE.out⟩])
                      go_wp2
                      go_ret
                      exact ⟨ret_n HF.out.symm, HB11.out⟩
                    · have HLE := Lib.hid hle
                      have HF : Hid (z = 200) := Lib.hid (by rw [HE.out, hb0_, if_neg Bool.false_ne_true, if_neg (fun h9 => by have := HGT.out; omega), HE1.out, hb2_, if_neg Bool.false_ne_true, HE2.out, if_neg (fun h9 => by have := HLE.out; omega)])
                      go_wp2
                      go_ret
                      exact ⟨ret_n HF.out.symm, HB11.out⟩
                  | false =>
                    have HF : Hid (z = 200) := Lib.hid (by rw [HE.out, hb0_, if_neg Bool.false_ne_true, if_neg (fun h9 => by have := HGT.out; omega), HE1.out, hb2_, if_neg Bool.false_ne_true, HE2.out, hsk, Bool.and_false, Bool.and_false, if_neg (fun h9 => Bool.false_ne_true h9.1)])
                    go_wp2
                    go_ret
                    exact ⟨ret_n HF.out.symm, HB11.out⟩
                | false =>
                  have HF : Hid (z = 200) := Lib.hid (by rw [HE.out, hb0_, if_neg Bool.false_ne_true, if_neg (fun h9 => by have := HGT.out; omega), HE1.out, hb2_, if_neg Bool.false_ne_true, HE2.out, HSN.out hb3_, Bool.and_false, Bool.and_false, if_neg (fun h9 => Bool.false_ne_true h9.1)])
                  go_wp2
                  go_ret
                  exact ⟨ret_n HF.out.symm, HB10.out⟩
          | false =>
            go_wp2_with (fail)
            go_at_call 37
            refine (HGN.out _ HB8.out).mono ?_
            rintro e x9 ⟨rfl, hb9⟩
            have HR9 := Lib.hid (Base.then_below HR8.out hb9)
            have HT9 := Lib.hid (Base.then_below HT8.out hb9)
            clear hb9
            try clear q0 q1 q2 q3 y0 y1 y2
            obtain ⟨⟨q0, q1, q2, q3⟩, ⟨y0, y1, y2⟩, hbw9⟩ := HK.out _ HR9.out
            have HB9 := Lib.hid hbw9
            clear hbw9
            try clear g0 g1
            have g0 := (HKT.out _ HT9.out).1
            have g1 := (HKT.out _ HT9.out).2
            cases hb2_ : b2 with
            | true =>
              go_wp2_with (fail)
              go_at_call 38
              refine (HAW.out _).mono ?_
              rintro e x10 ⟨rfl, hb10⟩
              have HR10 := Lib.hid (Base.then_below HR9.out hb10)
              have HT10 := Lib.hid (Base.then_below HT9.out hb10)
              clear hb10
              try clear q0 q1 q2 q3 y0 y1 y2
              obtain ⟨⟨q0, q1, q2, q3⟩, ⟨y0, y1, y2⟩, hbw10⟩ := HK.out _ HR10.out
              have HB10 := Lib.hid hbw10
              clear hbw10
              try clear g0 g1
              have g0 := (HKT.out _ HT10.out).1
              have g1 := (HKT.out _ HT10.out).2
              cases hkn : kn with
              | true =>
                cases hf1 : f1 with
                | true =>
                  have HF : Hid (z = 304) := Lib.hid (by rw [HE.out, hb0_, if_neg Bool.false_ne_true, hmk, Bool.false_and, if_neg (fun h9 => Bool.false_ne_true h9.1), HE1.out, hb2_, if_pos rfl, HE3.out, hf1, if_pos rfl, HRD.out, if_pos rfl])
                  go_wp2
                  go_ret
                  exact ⟨ret_n HF.out.symm, HB10.out⟩
                | false =>
                  have HF : Hid (z = 200) := Lib.hid (by rw [HE.out, hb0_, if_neg Bool.false_ne_true, hmk, Bool.false_and, if_neg (fun h9 => Bool.false_ne_true h9.1), HE1.out, hb2_, if_pos rfl, HE3.out, hf1, if_neg Bool.false_ne_true])
                  go_wp2
                  go_ret
                  exact ⟨ret_n HF.out.symm, HB10.out⟩
              | false =>
                have hf1 := HBD.out hkn
                have HF : Hid (z = 200) := Lib.hid (by rw [HE.out, hb0_, if_neg Bool.false_ne_true, hmk, Bool.false_and, if_neg (fun h9 => Bool.false_ne_true h9.1), HE1.out, hb2_, if_pos rfl, HE3.out, hf1, if_neg Bool.false_ne_true])
                go_wp2
                go_ret
                exact ⟨ret_n HF.out.symm, HB10.out⟩
            | false =>
              go_wp2_with (fail)
              go_at_call 37
              refine (HGS.out _ HB9.out).mono ?_
              rintro e x10 ⟨rfl, hb10⟩
              have HR10 := Lib.hid (Base.then_below HR9.out hb10)
              have HT10 := Lib.hid (Base.then_below HT9.out hb10)
              clear hb10
              try clear q0 q1 q2 q3 y0 y1 y2
              obtain ⟨⟨q0, q1, q2, q3⟩, ⟨y0, y1, y2⟩, hbw10⟩ := HK.out _ HR10.out
              have HB10 := Lib.hid hbw10
              clear hbw10
              try clear g0 g1
              have g0 := (HKT.out _ HT10.out).1
              have g1 := (HKT.out _ HT10.out).2
              cases hb3_ : b3 with
              | true =>
                go_wp2_with (fail)
                go_at_call 36
                refine (HDS.out _).mono ?_
                rintro e x11 ⟨rfl, hb11⟩
                have HR11 := Lib.hid (Base.then_below HR10.out hb11)
                have HT11 := Lib.hid (Base.then_below HT10.out hb11)
                clear hb11
                try clear q0 q1 q2 q3 y0 y1 y2
                obtain ⟨⟨q0, q1, q2, q3⟩, ⟨y0, y1, y2⟩, hbw11⟩ := HK.out _ HR11.out
                have HB11 := Lib.hid hbw11
                clear hbw11
                try clear g0 g1
                have g0 := (HKT.out _ HT11.out).1
                have g1 := (HKT.out _ HT11.out).2
                cases hsk : sk with
                | true =>
                  have HF : Hid (z = 200) := Lib.hid (by rw [HE.out, hb0_, if_neg Bool.false_ne_true, hmk, Bool.false_and, if_neg (fun h9 => Bool.false_ne_true h9.1), HE1.out, hb2_, if_neg Bool.false_ne_true, HE2.out, hmk, Bool.false_and, Bool.and_false, if_neg (fun h9 => Bool.false_ne_true h9.1)])
                  go_wp2
                  go_ret
                  exact ⟨ret_n HF.out.symm, HB11.out⟩
                | false =>
                  have HF : Hid (z = 200) := Lib.hid (by rw [HE.out, hb0_, if_neg Bool.false_ne_true, hmk, Bool.false_and, if_neg (fun h9 => Bool.false_ne_true h9.1), HE1.out, hb2_, if_neg Bool.false_ne_true, HE2.out, hsk, Bool.and_false, Bool.and_false, if_neg (fun h9 => Bool.false_ne_true h9.1)])
                  go_wp2
                  go_ret
                  exact ⟨ret_n HF.out.symm, HB11.out⟩
              | false =>
                have HF : Hid (z = 200) := Lib.hid (by rw [HE.out, hb0_, if_neg Bool.false_ne_true, hmk, Bool.false_and, if_neg (fun h9 => Bool.false_ne_true h9.1), HE1.out, hb2_, if_neg Bool.false_ne_true, HE2.out, HSN.out hb3_, Bool.and_false, Bool.and_false, if_neg (fun h9 => Bool.false_ne_true h9.1)])
                go_wp2
                go_ret
                exact ⟨ret_n HF.out.symm, HB10.out⟩
        | false =>
          go_wp2_with (fail)
          go_at_call 37
          refine (HGN.out _ HB8.out).mono ?_
          rintro e x9 ⟨rfl, hb9⟩
          have HR9 := Lib.hid (Base.then_below HR8.out hb9)
          have HT9 := Lib.hid (Base.then_below HT8.out hb9)
          clear hb9
          try clear q0 q1 q2 q3 y0 y1 y2
          obtain ⟨⟨q0, q1, q2, q3⟩, ⟨y0, y1, y2⟩, hbw9⟩ := HK.out _ HR9.out
          have HB9 := Lib.hid hbw9
          clear hbw9
          try clear g0 g1
          have g0 := (HKT.out _ HT9.out).1
          have g1 := (HKT.out _ HT9.out).2
          cases hb2_ : b2 with
          | true =>
            go_wp2_with (fail)
            go_at_call 38
            refine (HAW.out _).mono ?_
            rintro e x10 ⟨rfl, hb10⟩
            have HR10 := Lib.hid (Base.then_below HR9.out hb10)
            have HT10 := Lib.hid (Base.then_below HT9.out hb10)
            clear hb10
            try clear q0 q1 q2 q3 y0 y1 y2
            obtain ⟨⟨q0, q1, q2, q3⟩, ⟨y0, y1, y2⟩, hbw10⟩ := HK.out _ HR10.out
            have HB10 := Lib.hid hbw10
            clear hbw10
            try clear g0 g1
            have g0 := (HKT.out _ HT10.out).1
            have g1 := (HKT.out _ HT10.out).2
            cases hkn : kn with
            | true =>
              cases hf1 : f1 with
              | true =>
                have HF : Hid (z = 304) := Lib.hid (by rw [HE.out, hb0_, if_neg Bool.false_ne_true, huk, Bool.and_false, if_neg (fun h9 => Bool.false_ne_true h9.1), HE1.out, hb2_, if_pos rfl, HE3.out, hf1, if_pos rfl, HRD.out, if_pos rfl])
                go_wp2
                go_ret
                exact ⟨ret_n HF.out.symm, HB10.out⟩
              | false =>
                have HF : Hid (z = 200) := Lib.hid (by rw [HE.out, hb0_, if_neg Bool.false_ne_true, huk, Bool.and_false, if_neg (fun h9 => Bool.false_ne_true h9.1), HE1.out, hb2_, if_pos rfl, HE3.out, hf1, if_neg Bool.false_ne_true])
                go_wp2
                go_ret
                exact ⟨ret_n HF.out.symm, HB10.out⟩
            | false =>
              have hf1 := HBD.out hkn
              have HF : Hid (z = 200) := Lib.hid (by rw [HE.out, hb0_, if_neg Bool.false_ne_true, huk, Bool.and_false, if_neg (fun h9 => Bool.false_ne_true h9.1), HE1.out, hb2_, if_pos rfl, HE3.out, hf1, if_neg Bool.false_ne_true])
              go_wp2
              go_ret
              exact ⟨ret_n HF.out.symm, HB10.out⟩
          | false =>
            go_wp2_with (fail)
            go_at_call 37
            refine (HGS.out _ HB9.out).mono ?_
            rintro e x10 ⟨rfl, hb10⟩
            have HR10 := Lib.hid (Base.then_below HR9.out hb10)
            have HT10 := Lib.hid (Base.then_below HT9.out hb10)
            clear hb10
            try clear q0 q1 q2 q3 y0 y1 y2
            obtain ⟨⟨q0, q1, q2, q3⟩, ⟨y0, y1, y2⟩, hbw10⟩ := HK.out _ HR10.out
            have HB10 := Lib.hid hbw10
            clear hbw10
            try clear g0 g1
            have g0 := (HKT.out _ HT10.out).1
            have g1 := (HKT.out _ HT10.out).2
            cases hb3_ : b3 with
            | true =>
              go_wp2_with (fail)
              go_at_call 36
              refine (HDS.out _).mono ?_
              rintro e x11 ⟨rfl, hb11⟩
              have HR11 := Lib.hid (Base.then_below HR10.out hb11)
              have HT11 := Lib.hid (Base.then_below HT10.out hb11)
              clear hb11
              try clear q0 q1 q2 q3 y0 y1 y2
              obtain ⟨⟨q0, q1, q2, q3⟩, ⟨y0, y1, y2⟩, hbw11⟩ := HK.out _ HR11.out
              have HB11 := Lib.hid hbw11
              clear hbw11
              try clear g0 g1
              have g0 := (HKT.out _ HT11.out).1
              have g1 := (HKT.out _ HT11.out).2
              cases hsk : sk with
              | true =>
                cases hmk : mk with
                | true =>
                  by_cases hle : md ≤ sd
                  · have HLE := Lib.hid hle
                    have HF : Hid (z = 304) := Lib.hid (by rw [HE.out, hb0_, if_neg Bool.false_ne_true, huk, Bool.and_false, if_neg (fun h9 => Bool.false_ne_true h9.1), HE1.out, hb2_, if_neg Bool.false_ne_true, HE2.out, HRD.out, hsk, hmk, if_pos ⟨rfl, HLE.out⟩])
                    go_wp2
                    go_ret
                    exact ⟨ret_n HF.out.symm, HB11.out⟩
                  · have HLE := Lib.hid hle
                    have HF : Hid (z = 200) := Lib.hid (by rw [HE.out, hb0_, if_neg Bool.false_ne_true, huk, Bool.and_false, if_neg (fun h9 => Bool.false_ne_true h9.1), HE1.out, hb2_, if_neg Bool.false_ne_true, HE2.out, if_neg (fun h9 => by have := HLE.out; omega)])
                    go_wp2
                    go_ret
                    exact ⟨ret_n HF.out.symm, HB11.out⟩
                | false =>
                  have HF : Hid (z = 200) := Lib.hid (by rw [HE.out, hb0_, if_neg Bool.false_ne_true, huk, Bool.and_false, if_neg (fun h9 => Bool.false_ne_true h9.1), HE1.out, hb2_, if_neg Bool.false_ne_true, HE2.out, hmk, Bool.false_and, Bool.and_false, if_neg (fun h9 => Bool.false_ne_true h9.1)])
                  go_wp2
                  go_ret
                  exact ⟨ret_n HF.out.symm, HB11.out⟩
              | false =>
                have HF : Hid (z = 200) := Lib.hid (by rw [HE.out, hb0_, if_neg Bool.false_ne_true, huk, Bool.and_false, if_neg (fun h9 => Bool.false_ne_true h9.1), HE1.out, hb2_, if_neg Bool.false_ne_true, HE2.out, hsk, Bool.and_false, Bool.and_false, if_neg (fun h9 => Bool.false_ne_true h9.1)])
                go_wp2
                go_ret
                exact ⟨ret_n HF.out.symm, HB11.out⟩
            | false =>
              have HF : Hid (z = 200) := Lib.hid (by rw [HE.out, hb0_, if_neg Bool.false_ne_true, huk, Bool.and_false, if_neg (fun h9 => Bool.false_ne_true h9.1), HE1.out, hb2_, if_neg Bool.false_ne_true, HE2.out, HSN.out hb3_, Bool.and_false, Bool.and_false, if_neg (fun h9 => Bool.false_ne_true h9.1)])
              go_wp2
              go_ret
              exact ⟨ret_n HF.out.symm, HB10.out⟩
      | false =>
        go_wp2_with (fail)
        go_at_call 37
        refine (HGN.out _ HB7.out).mono ?_
        rintro e x8 ⟨rfl, hb8⟩
        have HR8 := Lib.hid (Base.then_below HR7.out hb8)
        have HT8 := Lib.hid (Base.then_below HT7.out hb8)
        clear hb8
        try clear q0 q1 q2 q3 y0 y1 y2
        obtain ⟨⟨q0, q1, q2, q3⟩, ⟨y0, y1, y2⟩, hbw8⟩ := HK.out _ HR8.out
        have HB8 := Lib.hid hbw8
        clear hbw8
        try clear g0 g1
        have g0 := (HKT.out _ HT8.out).1
        have g1 := (HKT.out _ HT8.out).2
        cases hb2_ : b2 with
        | true =>
          go_wp2_with (fail)
          go_at_call 38
          refine (HAW.out _).mono ?_
          rintro e x9 ⟨rfl, hb9⟩
          have HR9 := Lib.hid (Base.then_below HR8.out hb9)
          have HT9 := Lib.hid (Base.then_below HT8.out hb9)
          clear hb9
          try clear q0 q1 q2 q3 y0 y1 y2
          obtain ⟨⟨q0, q1, q2, q3⟩, ⟨y0, y1, y2⟩, hbw9⟩ := HK.out _ HR9.out
          have HB9 := Lib.hid hbw9
          clear hbw9
          try clear g0 g1
          have g0 := (HKT.out _ HT9.out).1
          have g1 := (HKT.out _ HT9.out).2
          cases hkn : kn with
          | true =>
            cases hf1 : f1 with
            | true =>
              have HF : Hid (z = 304) := Lib.hid (by rw [HE.out, hb0_, if_neg Bool.false_ne_true, HUN.out hb1_, Bool.and_false, if_neg (fun h9 => Bool.false_ne_true h9.1), HE1.out, hb2_, if_pos rfl, HE3.out, hf1, if_pos rfl, HRD.out, if_pos rfl])
              go_wp2
              go_ret
              exact ⟨ret_n HF.out.symm, HB9.out⟩
            | false =>
              have HF : Hid (z = 200) := Lib.hid (by rw [HE.out, hb0_, if_neg Bool.false_ne_true, HUN.out hb1_, Bool.and_false, if_neg (fun h9 => Bool.false_ne_true h9.1), HE1.out, hb2_, if_pos rfl, HE3.out, hf1, if_neg Bool.false_ne_true])
              go_wp2
              go_ret
              exact ⟨ret_n HF.out.symm, HB9.out⟩
          | false =>
            have hf1 := HBD.out hkn
            have HF : Hid (z = 200) := Lib.hid (by rw [HE.out, hb0_, if_neg Bool.false_ne_true, HUN.out hb1_, Bool.and_false, if_neg (fun h9 => Bool.false_ne_true h9.1), HE1.out, hb2_, if_pos rfl, HE3.out, hf1, if_neg Bool.false_ne_true])
            go_wp2
            go_ret
            exact ⟨ret_n HF.out.symm, HB9.out⟩
        | false =>
          go_wp2_with (fail)
          go_at_call 37
          refine (HGS.out _ HB8.out).mono ?_
          rintro e x9 ⟨rfl, hb9⟩
          have HR9 := Lib.hid (Base.then_below HR8.out hb9)
          have HT9 := Lib.hid (Base.then_below HT8.out hb9)
          clear hb9
          try clear q0 q1 q2 q3 y0 y1 y2
          obtain ⟨⟨q0, q1, q2, q3⟩, ⟨y0, y1, y2⟩, hbw9⟩ := HK.out _ HR9.out
          have HB9 := Lib.hid hbw9
          clear hbw9
          try clear g0 g1
          have g0 := (HKT.out _ HT9.out).1
          have g1 := (HKT.out _ HT9.out).2
          cases hb3_ : b3 with
          | true =>
            go_wp2_with (fail)
            go_at_call 36
            refine (HDS.out _).mono ?_
            rintro e x10 ⟨rfl, hb10⟩
            have HR10 := Lib.hid (Base.then_below HR9.out hb10)
            have HT10 := Lib.hid (Base.then_below HT9.out hb10)
            clear hb10
            try clear q0 q1 q2 q3 y0 y1 y2
            obtain ⟨⟨q0, q1, q2, q3⟩, ⟨y0, y1, y2⟩, hbw10⟩ := HK.out _ HR10.out
            have HB10 := Lib.hid hbw10
            clear hbw10
            try clear g0 g1
            have g0 := (HKT.out _ HT10.out).1
            have g1 := (HKT.out _ HT10.out).2
            cases hsk : sk with
            | true =>
              cases hmk : mk with
              | true =>
                by_cases hle : md ≤ sd
                · have HLE := Lib.hid hle
                  have HF : Hid (z = 304) := Lib.hid (by rw [HE.out, hb0_, if_neg Bool.false_ne_true, HUN.out hb1_, Bool.and_false, if_neg (fun h9 => Bool.false_ne_true h9.1), HE1.out, hb2_, if_neg Bool.false_ne_true, HE2.out, HRD.out, hsk, hmk, if_pos ⟨rfl, HLE.out⟩])
                  go_wp2
                  go_ret
                  exact ⟨ret_n HF.out.symm, HB10.out⟩
                · have HLE := Lib.hid hle
                  have HF : Hid (z = 200) := Lib.hid (by rw [HE.out, hb0_, if_neg Bool.false_ne_true, HUN.out hb1_, Bool.and_false, if_neg (fun h9 => Bool.false_ne_true h9.1), HE1.out, hb2_, if_neg Bool.false_ne_true, HE2.out, if_neg (fun h9 => by have := HLE.out; omega)])
                  go_wp2
                  go_ret
                  exact ⟨ret_n HF.out.symm, HB10.out⟩
              | false =>
                have HF : Hid (z = 200) := Lib.hid (by rw [HE.out, hb0_, if_neg Bool.false_ne_true, HUN.out hb1_, Bool.and_false, if_neg (fun h9 => Bool.false_ne_true h9.1), HE1.out, hb2_, if_neg Bool.false_ne_true, HE2.out, hmk, Bool.false_and, Bool.and_false, if_neg (fun h9 => Bool.false_ne_true h9.1)])
                go_wp2
                go_ret
                exact ⟨ret_n HF.out.symm, HB10.out⟩
            | false =>
              have HF : Hid (z = 200) := Lib.hid (by rw [HE.out, hb0_, if_neg Bool.false_ne_true, HUN.out hb1_, Bool.and_false, if_neg (fun h9 => Bool.false_ne_true h9.1), HE1.out, hb2_, if_neg Bool.false_ne_true, HE2.out, hsk, Bool.and_false, Bool.and_false, if_neg (fun h9 => Bool.false_ne_true h9.1)])
              go_wp2
              go_ret
              exact ⟨ret_n HF.out.symm, HB10.out⟩
          | false =>
            have HF : Hid (z = 200) := Lib.hid (by rw [HE.out, hb0_, if_neg Bool.false_ne_true, HUN.out hb1_, Bool.and_false, if_neg (fun h9 => Bool.false_ne_true h9.1), HE1.out, hb2_, if_neg Bool.false_ne_true, HE2.out, HSN.out hb3_, Bool.and_false, Bool.and_false, if_neg (fun h9 => Bool.false_ne_true h9.1)])
            go_wp2
            go_ret
            exact ⟨ret_n HF.out.symm, HB9.out⟩
  · subst hmv
    clear hm1
    have HRD := Lib.hid hrd
    clear hrd
    go_enter Tryz.func16, Tryz.ntmps16
    have HB0 := Lib.hid (HK.out _ HR0.out).2.2
    obtain ⟨⟨q0, q1, q2, q3⟩, ⟨y0, y1, y2⟩, _⟩ := HK.out _ HR0.out
    go_wp2_with (fail)
    go_at_call 35
    refine (HXE.out _ HB0.out).mono ?_
    rintro e x1 ⟨rfl, hb1⟩
    have HR1 := Lib.hid (Base.then_below HR0.out hb1)
    clear hb1
    try clear q0 q1 q2 q3 y0 y1 y2
    obtain ⟨⟨q0, q1, q2, q3⟩, ⟨y0, y1, y2⟩, hbw1⟩ := HK.out _ HR1.out
    have HB1 := Lib.hid hbw1
    clear hbw1
    go_wp2_with (fail)
    go_at_call 34
    refine (HXT.out _).mono ?_
    rintro e x2 ⟨rfl, hb2⟩
    have HR2 := Lib.hid (Base.then_below HR1.out hb2)
    clear hb2
    try clear q0 q1 q2 q3 y0 y1 y2
    obtain ⟨⟨q0, q1, q2, q3⟩, ⟨y0, y1, y2⟩, hbw2⟩ := HK.out _ HR2.out
    have HB2 := Lib.hid hbw2
    clear hbw2
    have hba : Below x2.heap.size x2 (x2.alloc (.cells #[.bool gx, .string ⟨gy.toArray⟩] 62)) := (Below.refl _ _).alloc (Nat.le_refl _) _
    have HR3 := Lib.hid (Base.then_below HR2.out hba)
    have HT3 := Lib.hid (Below.refl (x2.alloc (.cells #[.bool gx, .string ⟨gy.toArray⟩] 62)).heap.size (x2.alloc (.cells #[.bool gx, .string ⟨gy.toArray⟩] 62)))
    have HKT : Hid (∀ W, Below (x2.alloc (.cells #[.bool gx, .string ⟨gy.toArray⟩] 62)).heap.size (x2.alloc (.cells #[.bool gx, .string ⟨gy.toArray⟩] 62)) W → W.cell? ⟨x2.heap.size, 0, none⟩ = some (.bool gx) ∧ W.cell? ⟨x2.heap.size, 1, none⟩ = some (.string ⟨gy.toArray⟩)) := Lib.hid (fun W hb => And.intro ((Kept.one hb).1 0 _ rfl) ((Kept.one hb).1 1 _ rfl))
    clear hba
    try clear q0 q1 q2 q3 y0 y1 y2
    obtain ⟨⟨q0, q1, q2, q3⟩, ⟨y0, y1, y2⟩, hbw3⟩ := HK.out _ HR3.out
    have HB3 := Lib.hid hbw3
    clear hbw3
    try clear g0 g1
    have g0 := (HKT.out _ HT3.out).1
    have g1 := (HKT.out _ HT3.out).2
    go_wp2_with (fail)
    go_at_call 35
    refine (HXL.out _ HB3.out).mono ?_
    rintro e x4 ⟨rfl, hb4⟩
    have HR4 := Lib.hid (Base.then_below HR3.out hb4)
    have HT4 := Lib.hid (Base.then_below HT3.out hb4)
    clear hb4
    try clear q0 q1 q2 q3 y0 y1 y2
    obtain ⟨⟨q0, q1, q2, q3⟩, ⟨y0, y1, y2⟩, hbw4⟩ := HK.out _ HR4.out
    have HB4 := Lib.hid hbw4
    clear hbw4
    try clear g0 g1
    have g0 := (HKT.out _ HT4.out).1
    have g1 := (HKT.out _ HT4.out).2
    go_wp2_with (fail)
    go_at_call 36
    refine (HXD.out _).mono ?_
    rintro e x5 ⟨rfl, hb5⟩
    have HR5 := Lib.hid (Base.then_below HR4.out hb5)
    have HT5 := Lib.hid (Base.then_below HT4.out hb5)
    clear hb5
    try clear q0 q1 q2 q3 y0 y1 y2
    obtain ⟨⟨q0, q1, q2, q3⟩, ⟨y0, y1, y2⟩, hbw5⟩ := HK.out _ HR5.out
    have HB5 := Lib.hid hbw5
    clear hbw5
    try clear g0 g1
    have g0 := (HKT.out _ HT5.out).1
    have g1 := (HKT.out _ HT5.out).2
    go_wp2_with (fail)
    go_at_call 37
    refine (HGI.out _ HB5.out).mono ?_
    rintro e x6 ⟨rfl, hb6⟩
    have HR6 := Lib.hid (Base.then_below HR5.out hb6)
    have HT6 := Lib.hid (Base.then_below HT5.out hb6)
    clear hb6
    try clear q0 q1 q2 q3 y0 y1 y2
    obtain ⟨⟨q0, q1, q2, q3⟩, ⟨y0, y1, y2⟩, hbw6⟩ := HK.out _ HR6.out
    have HB6 := Lib.hid hbw6
    clear hbw6
    try clear g0 g1
    have g0 := (HKT.out _ HT6.out).1
    have g1 := (HKT.out _ HT6.out).2
    cases hb0_ : b0 with
    | true =>
      go_wp2_with (fail)
      go_at_call 38
      refine (HAS.out _).mono ?_
      rintro e x7 ⟨rfl, hb7⟩
      have HR7 := Lib.hid (Base.then_below HR6.out hb7)
      have HT7 := Lib.hid (Base.then_below HT6.out hb7)
      clear hb7
      try clear q0 q1 q2 q3 y0 y1 y2
      obtain ⟨⟨q0, q1, q2, q3⟩, ⟨y0, y1, y2⟩, hbw7⟩ := HK.out _ HR7.out
      have HB7 := Lib.hid hbw7
      clear hbw7
      try clear g0 g1
      have g0 := (HKT.out _ HT7.out).1
      have g1 := (HKT.out _ HT7.out).2
      cases hf0 : f0 with
      | true =>
        go_wp2_with (fail)
        go_at_call 37
        refine (HGN.out _ HB7.out).mono ?_
        rintro e x8 ⟨rfl, hb8⟩
        have HR8 := Lib.hid (Base.then_below HR7.out hb8)
        have HT8 := Lib.hid (Base.then_below HT7.out hb8)
        clear hb8
        try clear q0 q1 q2 q3 y0 y1 y2
        obtain ⟨⟨q0, q1, q2, q3⟩, ⟨y0, y1, y2⟩, hbw8⟩ := HK.out _ HR8.out
        have HB8 := Lib.hid hbw8
        clear hbw8
        try clear g0 g1
        have g0 := (HKT.out _ HT8.out).1
        have g1 := (HKT.out _ HT8.out).2
        cases hb2_ : b2 with
        | true =>
          go_wp2_with (fail)
          go_at_call 38
          refine (HAW.out _).mono ?_
          rintro e x9 ⟨rfl, hb9⟩
          have HR9 := Lib.hid (Base.then_below HR8.out hb9)
          have HT9 := Lib.hid (Base.then_below HT8.out hb9)
          clear hb9
          try clear q0 q1 q2 q3 y0 y1 y2
          obtain ⟨⟨q0, q1, q2, q3⟩, ⟨y0, y1, y2⟩, hbw9⟩ := HK.out _ HR9.out
          have HB9 := Lib.hid hbw9
          clear hbw9
          try clear g0 g1
          have g0 := (HKT.out _ HT9.out).1
          have g1 := (HKT.out _ HT9.out).2
          cases hkn : kn with
          | true =>
            cases hf1 : f1 with
            | true =>
              have HF : Hid (z = 304) := Lib.hid (by rw [HE.out, hb0_, if_pos rfl, hf0, if_pos rfl, HE1.out, hb2_, if_pos rfl, HE3.out, hf1, if_pos rfl, HRD.out, if_pos rfl])
              go_wp2
              go_ret
              exact ⟨ret_n HF.out.symm, HB9.out⟩
            | false =>
              have HF : Hid (z = 200) := Lib.hid (by rw [HE.out, hb0_, if_pos rfl, hf0, if_pos rfl, HE1.out, hb2_, if_pos rfl, HE3.out, hf1, if_neg Bool.false_ne_true])
              go_wp2
              go_ret
              exact ⟨ret_n HF.out.symm, HB9.out⟩
          | false =>
            have hf1 := HBD.out hkn
            have HF : Hid (z = 200) := Lib.hid (by rw [HE.out, hb0_, if_pos rfl, hf0, if_pos rfl, HE1.out, hb2_, if_pos rfl, HE3.out, hf1, if_neg Bool.false_ne_true])
            go_wp2
            go_ret
            exact ⟨ret_n HF.out.symm, HB9.out⟩
        | false =>
          go_wp2_with (fail)
          go_at_call 37
          refine (HGS.out _ HB8.out).mono ?_
          rintro e x9 ⟨rfl, hb9⟩
          have HR9 := Lib.hid (Base.then_below HR8.out hb9)
          have HT9 := Lib.hid (Base.then_below HT8.out hb9)
          clear hb9
          try clear q0 q1 q2 q3 y0 y1 y2
          obtain ⟨⟨q0, q1, q2, q3⟩, ⟨y0, y1, y2⟩, hbw9⟩ := HK.out _ HR9.out
          have HB9 := Lib.hid hbw9
          clear hbw9
          try clear g0 g1
          have g0 := (HKT.out _ HT9.out).1
          have g1 := (HKT.out _ HT9.out).2
          cases hb3_ : b3 with
          | true =>
            go_wp2_with (fail)
            go_at_call 36
            refine (HDS.out _).mono ?_
            rintro e x10 ⟨rfl, hb10⟩
            have HR10 := Lib.hid (Base.then_below HR9.out hb10)
            have HT10 := Lib.hid (Base.then_below HT9.out hb10)
            clear hb10
            try clear q0 q1 q2 q3 y0 y1 y2
            obtain ⟨⟨q0, q1, q2, q3⟩, ⟨y0, y1, y2⟩, hbw10⟩ := HK.out _ HR10.out
            have HB10 := Lib.hid hbw10
            clear hbw10
            try clear g0 g1
            have g0 := (HKT.out _ HT10.out).1
            have g1 := (HKT.out _ HT10.out).2
            cases hsk : sk with
            | true =>
              cases hmk : mk with
              | true =>
                by_cases hle : md ≤ sd
                · have HLE := Lib.hid hle
                  have HF : Hid (z = 304) := Lib.hid (by rw [HE.out, hb0_, if_pos rfl, hf0, if_pos rfl, HE1.out, hb2_, if_neg Bool.false_ne_true, HE2.out, HRD.out, hsk, hmk, if_pos ⟨rfl, HLE.out⟩])
                  go_wp2
                  go_ret
                  exact ⟨ret_n HF.out.symm, HB10.out⟩
                · have HLE := Lib.hid hle
                  have HF : Hid (z = 200) := Lib.hid (by rw [HE.out, hb0_, if_pos rfl, hf0, if_pos rfl, HE1.out, hb2_, if_neg Bool.false_ne_true, HE2.out, if_neg (fun h9 => by have := HLE.out; omega)])
                  go_wp2
                  go_ret
                  exact ⟨ret_n HF.out.symm, HB10.out⟩
              | false =>
                have HF : Hid (z = 200) := Lib.hid (by rw [HE.out, hb0_, if_pos rfl, hf0, if_pos rfl, HE1.out, hb2_, if_neg Bool.false_ne_true, HE2.out, hmk, Bool.false_and, Bool.and_false, if_neg (fun h9 => Bool.false_ne_true h9.1)])
                go_wp2
                go_ret
                exact ⟨ret_n HF.out.symm, HB10.out⟩
            | false =>
              have HF : Hid (z = 200) := Lib.hid (by rw [HE.out, hb0_, if_pos rfl, hf0, if_pos rfl, HE1.out, hb2_, if_neg Bool.false_ne_true, HE2.out, hsk, Bool.and_false, Bool.and_false, if_neg (fun h9 => Bool.false_ne_true h9.1)])
              go_wp2
              go_ret
              exact ⟨ret_n HF.out.symm, HB10.out⟩
          | false =>
            have HF : Hid (z = 200) := Lib.hid (by rw [HE.out, hb0_, if_pos rfl, hf0, if_pos rfl, HE1.out, hb2_, if_neg Bool.false_ne_true, HE2.out, HSN.out hb3_, Bool.and_false, Bool.and_false, if_neg (fun h9 => Bool.false_ne_true h9.1)])
            go_wp2
            go_ret
            exact ⟨ret_n HF.out.symm, HB9.out⟩
      | false =>
        have HF : Hid (z = 412) := Lib.hid (by rw [HE.out, hb0_, if_pos rfl, hf0, if_neg Bool.false_ne_true])
        go_wp2
        go_ret
        exact ⟨ret_n HF.out.symm, HB7.out⟩
    | false =>
      go_wp2_with (fail)
      go_at_call 37
      refine (HGU.out _ HB6.out).mono ?_
      rintro e x7 ⟨rfl, hb7⟩
      have HR7 := Lib.hid (Base.then_below HR6.out hb7)
      have HT7 := Lib.hid (Base.then_below HT6.out hb7)
      clear hb7
      try clear q0 q1 q2 q3 y0 y1 y2
      obtain ⟨⟨q0, q1, q2, q3⟩, ⟨y0, y1, y2⟩, hbw7⟩ := HK.out _ HR7.out
      have HB7 := Lib.hid hbw7
      clear hbw7
      try clear g0 g1
      have g0 := (HKT.out _ HT7.out).1
      have g1 := (HKT.out _ HT7.out).2
      cases hb1_ : b1 with
      | true =>
        go_wp2_with (fail)
        go_at_call 36
        refine (HDU.out _).mono ?_
        rintro e x8 ⟨rfl, hb8⟩
        have HR8 := Lib.hid (Base.then_below HR7.out hb8)
        have HT8 := Lib.hid (Base.then_below HT7.out hb8)
        clear hb8
        try clear q0 q1 q2 q3 y0 y1 y2
        obtain ⟨⟨q0, q1, q2, q3⟩, ⟨y0, y1, y2⟩, hbw8⟩ := HK.out _ HR8.out
        have HB8 := Lib.hid hbw8
        clear hbw8
        try clear g0 g1
        have g0 := (HKT.out _ HT8.out).1
        have g1 := (HKT.out _ HT8.out).2
        cases huk : uk with
        | true =>
          cases hmk : mk with
          | true =>
            by_cases hgt : ud < md
            · have HGT := Lib.hid hgt
              have HF : Hid (z = 412) := Lib.hid (by rw [HE.out, hb0_, if_neg Bool.false_ne_true, huk, hmk, if_pos ⟨rfl, HGT.out⟩])
              go_wp2
              go_ret
              exact ⟨ret_n HF.out.symm, HB8.out⟩
            · have HGT := Lib.hid hgt
              go_wp2_with (fail)
              go_at_call 37
              refine (HGN.out _ HB8.out).mono ?_
              rintro e x9 ⟨rfl, hb9⟩
              have HR9 := Lib.hid (Base.then_below HR8.out hb9)
              have HT9 := Lib.hid (Base.then_below HT8.out hb9)
              clear hb9
              try clear q0 q1 q2 q3 y0 y1 y2
              obtain ⟨⟨q0, q1, q2, q3⟩, ⟨y0, y1, y2⟩, hbw9⟩ := HK.out _ HR9.out
              have HB9 := Lib.hid hbw9
              clear hbw9
              try clear g0 g1
              have g0 := (HKT.out _ HT9.out).1
              have g1 := (HKT.out _ HT9.out).2
              cases hb2_ : b2 with
              | true =>
                go_wp2_with (fail)
                go_at_call 38
                refine (HAW.out _).mono ?_
                rintro e x10 ⟨rfl, hb10⟩
                have HR10 := Lib.hid (Base.then_below HR9.out hb10)
                have HT10 := Lib.hid (Base.then_below HT9.out hb10)
                clear hb10
                try clear q0 q1 q2 q3 y0 y1 y2
                obtain ⟨⟨q0, q1, q2, q3⟩, ⟨y0, y1, y2⟩, hbw10⟩ := HK.out _ HR10.out
                have HB10 := Lib.hid hbw10
                clear hbw10
                try clear g0 g1
                have g0 := (HKT.out _ HT10.out).1
                have g1 := (HKT.out _ HT10.out).2
                cases hkn : kn with
                | true =>
                  cases hf1 : f1 with
                  | true =>
                    have HF : Hid (z = 304) := Lib.hid (by rw [HE.out, hb0_, if_neg Bool.false_ne_true, if_neg (fun h9 => by have := HGT.out; omega), HE1.out, hb2_, if_pos rfl, HE3.out, hf1, if_pos rfl, HRD.out, if_pos rfl])
                    go_wp2
                    go_ret
                    exact ⟨ret_n HF.out.symm, HB10.out⟩
                  | false =>
                    have HF : Hid (z = 200) := Lib.hid (by rw [HE.out, hb0_, if_neg Bool.false_ne_true, if_neg (fun h9 => by have := HGT.out; omega), HE1.out, hb2_, if_pos rfl, HE3.out, hf1, if_neg Bool.false_ne_true])
                    go_wp2
                    go_ret
                    exact ⟨ret_n HF.out.symm, HB10.out⟩
                | false =>
                  have hf1 := HBD.out hkn
                  have HF : Hid (z = 200) := Lib.hid (by rw [HE.out, hb0_, if_neg Bool.false_ne_true, if_neg (fun h9 => by have := HGT.out; omega), HE1.out, hb2_, if_pos rfl, HE3.out, hf1, if_neg Bool.false_ne_true])
                  go_wp2
                  go_ret
                  exact ⟨ret_n HF.out.symm, HB10.out⟩
              | false =>
                go_wp2_with (fail)
                go_at_call 37
                refine (HGS.out _ HB9.out).mono ?_
                rintro e x10 ⟨rfl, hb10⟩
                have HR10 := Lib.hid (Base.then_below HR9.out hb10)
                have HT10 := Lib.hid (Base.then_below HT9.out hb10)
                clear hb10
                try clear q0 q1 q2 q3 y0 y1 y2
                obtain ⟨⟨q0, q1, q2, q3⟩, ⟨y0, y1, y2⟩, hbw10⟩ := HK.out _ HR10.out
                have HB10 := Lib.hid hbw10
                clear hbw10
                try clear g0 g1
                have g0 := (HKT.out _ HT10.out).1
                have g1 := (HKT.out _ HT10.out).2
                cases hb3_ : b3 with
                | true =>
                  go_wp2_with (fail)
                  go_at_call 36
                  refine (HDS.out _).mono ?_
                  rintro e x11 ⟨rfl, hb11⟩
                  have HR11 := Lib.hid (Base.then_below HR10.out hb11)
                  have HT11 := Lib.hid (Base.then_below HT10.out hb11)
                  clear hb11
                  try clear q0 q1 q2 q3 y0 y1 y2
                  obtain ⟨⟨q0, q1, q2, q3⟩, ⟨y0, y1, y2⟩, hbw11⟩ := HK.out _ HR11.out
                  have HB11 := Lib.hid hbw11
                  clear hbw11
                  try clear g0 g1
                  have g0 := (HKT.out _ HT11.out).1
                  have g1 := (HKT.out _ HT11.out).2
                  cases hsk : sk with
                  | true =>
                    by_cases hle : md ≤ sd
                    · have HLE := Lib.hid hle
                      have HF : Hid (z = 304) := Lib.hid (by rw [HE.out, hb0_, if_neg Bool.false_ne_true, if_neg (fun h9 => by have := HGT.out; omega), HE1.out, hb2_, if_neg Bool.false_ne_true, HE2.out, HRD.out, hsk, hmk, if_pos ⟨rfl, HLE.out⟩])
                      go_wp2
                      go_ret
                      exact ⟨ret_n HF.out.symm, HB11.out⟩
                    · have HLE := Lib.hid hle
                      have HF : Hid (z = 200) := Lib.hid (by rw [HE.out, hb0_, if_neg Bool.false_ne_true, if_neg (fun h9 => by have := HGT.out; omega), HE1.out, hb2_, if_neg Bool.false_ne_true, HE2.out, if_neg (fun h9 => by have := HLE.out; omega)])
                      go_wp2
                      go_ret
                      exact ⟨ret_n HF.out.symm, HB11.out⟩
                  | false =>
                    have HF : Hid (z = 200) := Lib.hid (by rw [HE.out, hb0_, if_neg Bool.false_ne_true, if_neg (fun h9 => by have := HGT.out; omega), HE1.out, hb2_, if_neg Bool.false_ne_true, HE2.out, hsk, Bool.and_false, Bool.and_false, if_neg (fun h9 => Bool.false_ne_true h9.1)])
                    go_wp2
                    go_ret
                    exact ⟨ret_n HF.out.symm, HB11.out⟩
                | false =>
                  have HF : Hid (z = 200) := Lib.hid (by rw [HE.out, hb0_, if_neg Bool.false_ne_true, if_neg (fun h9 => by have := HGT.out; omega), HE1.out, hb2_, if_neg Bool.false_ne_true, HE2.out, HSN.out hb3_, Bool.and_false, Bool.and_false, if_neg (fun h9 => Bool.false_ne_true h9.1)])
                  go_wp2
                  go_ret
                  exact ⟨ret_n HF.out.symm, HB10.out⟩
          | false =>
            go_wp2_with (fail)
            go_at_call 37
            refine (HGN.out _ HB8.out).mono ?_
            rintro e x9 ⟨rfl, hb9⟩
            have HR9 := Lib.hid (Base.then_below HR8.out hb9)
            have HT9 := Lib.hid (Base.then_below HT8.out hb9)
            clear hb9
            try clear q0 q1 q2 q3 y0 y1 y2
            obtain ⟨⟨q0, q1, q2, q3⟩, ⟨y0, y1, y2⟩, hbw9⟩ := HK.out _ HR9.out
            have HB9 := Lib.hid hbw9
            clear hbw9
            try clear g0 g1
            have g0 := (HKT.out _ HT9.out).1
            have g1 := (HKT.out _ HT9.out).2
            cases hb2_ : b2 with
            | true =>
              go_wp2_with (fail)
              go_at_call 38
              refine (HAW.out _).mono ?_
              rintro e x10 ⟨rfl, hb10⟩
              have HR10 := Lib.hid (Base.then_below HR9.out hb10)
              have HT10 := Lib.hid (Base.then_below HT9.out hb10)
              clear hb10
              try clear q0 q1 q2 q3 y0 y1 y2
              obtain ⟨⟨q0, q1, q2, q3⟩, ⟨y0, y1, y2⟩, hbw10⟩ := HK.out _ HR10.out
              have HB10 := Lib.hid hbw10
              clear hbw10
              try clear g0 g1
              have g0 := (HKT.out _ HT10.out).1
              have g1 := (HKT.out _ HT10.out).2
              cases hkn : kn with
              | true =>
                cases hf1 : f1 with
                | true =>
                  have HF : Hid (z = 304) := Lib.hid (by rw [HE.out, hb0_, if_neg Bool.false_ne_true, hmk, Bool.false_and, if_neg (fun h9 => Bool.false_ne_true h9.1), HE1.out, hb2_, if_pos rfl, HE3.out, hf1, if_pos rfl, HRD.out, if_pos rfl])
                  go_wp2
                  go_ret
                  exact ⟨ret_n HF.out.symm, HB10.out⟩
                | false =>
                  have HF : Hid (z = 200) := Lib.hid (by rw [HE.out, hb0_, if_neg Bool.false_ne_true, hmk, Bool.false_and, if_neg (fun h9 => Bool.false_ne_true h9.1), HE1.out, hb2_, if_pos rfl, HE3.out, hf1, if_neg Bool.false_ne_true])
                  go_wp2
                  go_ret
                  exact ⟨ret_n HF.out.symm, HB10.out⟩
              | false =>
                have hf1 := HBD.out hkn
                have HF : Hid (z = 200) := Lib.hid (by rw [HE.out, hb0_, if_neg Bool.false_ne_true, hmk, Bool.false_and, if_neg (fun h9 => Bool.false_ne_true h9.1), HE1.out, hb2_, if_pos rfl, HE3.out, hf1, if_neg Bool.false_ne_true])
                go_wp2
                go_ret
                exact ⟨ret_n HF.out.symm, HB10.out⟩
            | false =>
              go_wp2_with (fail)
              go_at_call 37
              refine (HGS.out _ HB9.out).mono ?_
              rintro e x10 ⟨rfl, hb10⟩
              have HR10 := Lib.hid (Base.then_below HR9.out hb10)
              have HT10 := Lib.hid (Base.then_below HT9.out hb10)
              clear hb10
              try clear q0 q1 q2 q3 y0 y1 y2
              obtain ⟨⟨q0, q1, q2, q3⟩, ⟨y0, y1, y2⟩, hbw10⟩ := HK.out _ HR10.out
              have HB10 := Lib.hid hbw10
              clear hbw10
              try clear g0 g1
              have g0 := (HKT.out _ HT10.out).1
              have g1 := (HKT.out _ HT10.out).2
              cases hb3_ : b3 with
              | true =>
                go_wp2_with (fail)
                go_at_call 36
                refine (HDS.out _).mono ?_
                rintro e x11 ⟨rfl, hb11⟩
                have HR11 := Lib.hid (Base.then_below HR10.out hb11)
                have HT11 := Lib.hid (Base.then_below HT10.out hb11)
                clear hb11
                try clear q0 q1 q2 q3 y0 y1 y2
                obtain ⟨⟨q0, q1, q2, q3⟩, ⟨y0, y1, y2⟩, hbw11⟩ := HK.out _ HR11.out
                have HB11 := Lib.hid hbw11
                clear hbw11
                try clear g0 g1
                have g0 := (HKT.out _ HT11.out).1
                have g1 := (HKT.out _ HT11.out).2
                cases hsk : sk with
                | true =>
                  have HF : Hid (z = 200) := Lib.hid (by rw [HE.out, hb0_, if_neg Bool.false_ne_true, hmk, Bool.false_and, if_neg (fun h9 => Bool.false_ne_true h9.1), HE1.out, hb2_, if_neg Bool.false_ne_true, HE2.out, hmk, Bool.false_and, Bool.and_false, if_neg (fun h9 => Bool.false_ne_true h9.1)])
                  go_wp2
                  go_ret
                  exact ⟨ret_n HF.out.symm, HB11.out⟩
                | false =>
                  have HF : Hid (z = 200) := Lib.hid (by rw [HE.out, hb0_, if_neg Bool.false_ne_true, hmk, Bool.false_and, if_neg (fun h9 => Bool.false_ne_true h9.1), HE1.out, hb2_, if_neg Bool.false_ne_true, HE2.out, hsk, Bool.and_false, Bool.and_false, if_neg (fun h9 => Bool.false_ne_true h9.1)])
                  go_wp2
                  go_ret
                  exact ⟨ret_n HF.out.symm, HB11.out⟩
              | false =>
                have HF : Hid (z = 200) := Lib.hid (by rw [HE.out, hb0_, if_neg Bool.false_ne_true, hmk, Bool.false_and, if_neg (fun h9 => Bool.false_ne_true h9.1), HE1.out, hb2_, if_neg Bool.false_ne_true, HE2.out, HSN.out hb3_, Bool.and_false, Bool.and_false, if_neg (fun h9 => Bool.false_ne_true h9.1)])
                go_wp2
                go_ret
                exact ⟨ret_n HF.out.symm, HB10.out⟩
        | false =>
          go_wp2_with (fail)
          go_at_call 37
          refine (HGN.out _ HB8.out).mono ?_
          rintro e x9 ⟨rfl, hb9⟩
          have HR9 := Lib.hid (Base.then_below HR8.out hb9)
          have HT9 := Lib.hid (Base.then_below HT8.out hb9)
          clear hb9
          try clear q0 q1 q2 q3 y0 y1 y2
          obtain ⟨⟨q0, q1, q2, q3⟩, ⟨y0, y1, y2⟩, hbw9⟩ := HK.out _ HR9.out
          have HB9 := Lib.hid hbw9
          clear hbw9
          try clear g0 g1
          have g0 := (HKT.out _ HT9.out).1
          have g1 := (HKT.out _ HT9.out).2
          cases hb2_ : b2 with
          | true =>
            go_wp2_with (fail)
            go_at_call 38
            refine (HAW.out _).mono ?_
            rintro e x10 ⟨rfl, hb10⟩
            have HR10 := Lib.hid (Base.then_below HR9.out hb10)
            have HT10 := Lib.hid (Base.then_below HT9.out hb10)
            clear hb10
            try clear q0 q1 q2 q3 y0 y1 y2
            obtain ⟨⟨q0, q1, q2, q3⟩, ⟨y0, y1, y2⟩, hbw10⟩ := HK.out _ HR10.out
            have HB10 := Lib.hid hbw10
            clear hbw10
            try clear g0 g1
            have g0 := (HKT.out _ HT10.out).1
            have g1 := (HKT.out _ HT10.out).2
            cases hkn : kn with
            | true =>
              cases hf1 : f1 with
              | true =>
                have HF : Hid (z = 304) := Lib.hid (by rw [HE.out, hb0_, if_neg Bool.false_ne_true, huk, Bool.and_false, if_neg (fun h9 => Bool.false_ne_true h9.1), HE1.out, hb2_, if_pos rfl, HE3.out, hf1, if_pos rfl, HRD.out, if_pos rfl])
                go_wp2
                go_ret
                exact ⟨ret_n HF.out.symm, HB10.out⟩
              | false =>
                have HF : Hid (z = 200) := Lib.hid (by rw [HE.out, hb0_, if_neg Bool.false_ne_true, huk, Bool.and_false, if_neg (fun h9 => Bool.false_ne_true h9.1), HE1.out, hb2_, if_pos rfl, HE3.out, hf1, if_neg Bool.false_ne_true])
                go_wp2
                go_ret
                exact ⟨ret_n HF.out.symm, HB10.out⟩
            | false =>
              have hf1 := HBD.out hkn
              have HF : Hid (z = 200) := Lib.hid (by rw [HE.out, hb0_, if_neg Bool.false_ne_true, huk, Bool.and_false, if_neg (fun h9 => Bool.false_ne_true h9.1), HE1.out, hb2_, if_pos rfl, HE3.out, hf1, if_neg Bool.false_ne_true])
              go_wp2
              go_ret
              exact ⟨ret_n HF.out.symm, HB10.out⟩
          | false =>
            go_wp2_with (fail)
            go_at_call 37
            refine (HGS.out _ HB9.out).mono ?_
            rintro e x10 ⟨rfl, hb10⟩
            have HR10 := Lib.hid (Base.then_below HR9.out hb10)
            have HT10 := Lib.hid (Base.then_below HT9.out hb10)
            clear hb10
            try clear q0 q1 q2 q3 y0 y1 y2
            obtain ⟨⟨q0, q1, q2, q3⟩, ⟨y0, y1, y2⟩, hbw10⟩ := HK.out _ HR10.out
            have HB10 := Lib.hid hbw10
            clear hbw10
            try clear g0 g1
            have g0 := (HKT.out _ HT10.out).1
            have g1 := (HKT.out _ HT10.out).2
            cases hb3_ : b3 with
            | true =>
              go_wp2_with (fail)
              go_at_call 36
              refine (HDS.out _).mono ?_
              rintro e x11 ⟨rfl, hb11⟩
              have HR11 := Lib.hid (Base.then_below HR10.out hb11)
              have HT11 := Lib.hid (Base.then_below HT10.out hb11)
              clear hb11
              try clear q0 q1 q2 q3 y0 y1 y2
              obtain ⟨⟨q0, q1, q2, q3⟩, ⟨y0, y1, y2⟩, hbw11⟩ := HK.out _ HR11.out
              have HB11 := Lib.hid hbw11
              clear hbw11
              try clear g0 g1
              have g0 := (HKT.out _ HT11.out).1
              have g1 := (HKT.out _ HT11.out).2
              cases hsk : sk with
              | true =>
                cases hmk : mk with
                | true =>
                  by_cases hle : md ≤ sd
                  · have HLE := Lib.hid hle
                    have HF : Hid (z = 304) := Lib.hid (by rw [HE.out, hb0_, if_neg Bool.false_ne_true, huk, Bool.and_false, if_neg (fun h9 => Bool.false_ne_true h9.1), HE1.out, hb2_, if_neg Bool.false_ne_true, HE2.out, HRD.out, hsk, hmk, if_pos ⟨rfl, HLE.out⟩])
                    go_wp2
                    go_ret
                    exact ⟨ret_n HF.out.symm, HB11.out⟩
                  · have HLE := Lib.hid hle
                    have HF : Hid (z = 200) := Lib.hid (by rw [HE.out, hb0_, if_neg Bool.false_ne_true, huk, Bool.and_false, if_neg (fun h9 => Bool.false_ne_true h9.1), HE1.out, hb2_, if_neg Bool.false_ne_true, HE2.out, if_neg (fun h9 => by have := HLE.out; omega)])
                    go_wp2
                    go_ret
                    exact ⟨ret_n HF.out.symm, HB11.out⟩
                | false =>
                  have HF : Hid (z = 200) := Lib.hid (by rw [HE.out, hb0_, if_neg Bool.false_ne_true, huk, Bool.and_false, if_neg (fun h9 => Bool.false_ne_true h9.1), HE1.out, hb2_, if_neg Bool.false_ne_true, HE2.out, hmk, Bool.false_and, Bool.and_false, if_neg (fun h9 => Bool.false_ne_true h9.1)])
                  go_wp2
                  go_ret
                  exact ⟨ret_n HF.out.symm, HB11.out⟩
              | false =>
                have HF : Hid (z = 200) := Lib.hid (by rw [HE.out, hb0_, if_neg Bool.false_ne_true, huk, Bool.and_false, if_neg (fun h9 => Bool.false_ne_true h9.1), HE1.out, hb2_, if_neg Bool.false_ne_true, HE2.out, hsk, Bool.and_false, Bool.and_false, if_neg (fun h9 => Bool.false_ne_true h9.1)])
                go_wp2
                go_ret
                exact ⟨ret_n HF.out.symm, HB11.out⟩
            | false =>
              have HF : Hid (z = 200) := Lib.hid (by rw [HE.out, hb0_, if_neg Bool.false_ne_true, huk, Bool.and_false, if_neg (fun h9 => Bool.false_ne_true h9.1), HE1.out, hb2_, if_neg Bool.false_ne_true, HE2.out, HSN.out hb3_, Bool.and_false, Bool.and_false, if_neg (fun h9 => Bool.false_ne_true h9.1)])
              go_wp2
              go_ret
              exact ⟨ret_n HF.out.symm, HB10.out⟩
      | false =>
        go_wp2_with (fail)
        go_at_call 37
        refine (HGN.out _ HB7.out).mono ?_
        rintro e x8 ⟨rfl, hb8⟩
        have HR8 := Lib.hid (Base.then_below HR7.out hb8)
        have HT8 := Lib.hid (Base.then_below HT7.out hb8)
        clear hb8
        try clear q0 q1 q2 q3 y0 y1 y2
        obtain ⟨⟨q0, q1, q2, q3⟩, ⟨y0, y1, y2⟩, hbw8⟩ := HK.out _ HR8.out
        have HB8 := Lib.hid hbw8
        clear hbw8
        try clear g0 g1
        have g0 := (HKT.out _ HT8.out).1
        have g1 := (HKT.out _ HT8.out).2
        cases hb2_ : b2 with
        | true =>
          go_wp2_with (fail)
          go_at_call 38
          refine (HAW.out _).mono ?_
          rintro e x9 ⟨rfl, hb9⟩
          have HR9 := Lib.hid (Base.then_below HR8.out hb9)
          have HT9 := Lib.hid (Base.then_below HT8.out hb9)
          clear hb9
          try clear q0 q1 q2 q3 y0 y1 y2
          obtain ⟨⟨q0, q1, q2, q3⟩, ⟨y0, y1, y2⟩, hbw9⟩ := HK.out _ HR9.out
          have HB9 := Lib.hid hbw9
          clear hbw9
          try clear g0 g1
          have g0 := (HKT.out _ HT9.out).1
          have g1 := (HKT.out _ HT9.out).2
          cases hkn : kn with
          | true =>
            cases hf1 : f1 with
            | true =>
              have HF : Hid (z = 304) := Lib.hid (by rw [HE.out, hb0_, if_neg Bool.false_ne_true, HUN.out hb1_, Bool.and_false, if_neg (fun h9 => Bool.false_ne_true h9.1), HE1.out, hb2_, if_pos rfl, HE3.out, hf1, if_pos rfl, HRD.out, if_pos rfl])
              go_wp2
              go_ret
              exact ⟨ret_n HF.out.symm, HB9.out⟩
            | false =>
              have HF : Hid (z = 200) := Lib.hid (by rw [HE.out, hb0_, if_neg Bool.false_ne_true, HUN.out hb1_, Bool.and_false, if_neg (fun h9 => Bool.false_ne_true h9.1), HE1.out, hb2_, if_pos rfl, HE3.out, hf1, if_neg Bool.false_ne_true])
              go_wp2
              go_ret
              exact ⟨ret_n HF.out.symm, HB9.out⟩
          | false =>
            have hf1 := HBD.out hkn
            have HF : Hid (z = 200) := Lib.hid (by rw [HE.out, hb0_, if_neg Bool.false_ne_true, HUN.out hb1_, Bool.and_false, if_neg (fun h9 => Bool.false_ne_true h9.1), HE1.out, hb2_, if_pos rfl, HE3.out, hf1, if_neg Bool.false_ne_true])
            go_wp2
            go_ret
            exact ⟨ret_n HF.out.symm, HB9.out⟩
        | false =>
          go_wp2_with (fail)
          go_at_call 37
          refine (HGS.out _ HB8.out).mono ?_
          rintro e x9 ⟨rfl, hb9⟩
          have HR9 := Lib.hid (Base.then_below HR8.out hb9)
          have HT9 := Lib.hid (Base.then_below HT8.out hb9)
          clear hb9
          try clear q0 q1 q2 q3 y0 y1 y2
          obtain ⟨⟨q0, q1, q2, q3⟩, ⟨y0, y1, y2⟩, hbw9⟩ := HK.out _ HR9.out
          have HB9 := Lib.hid hbw9
          clear hbw9
          try clear g0 g1
          have g0 := (HKT.out _ HT9.out).1
          have g1 := (HKT.out _ HT9.out).2
          cases hb3_ : b3 with
          | true =>
            go_wp2_with (fail)
            go_at_call 36
            refine (HDS.out _).mono ?_
            rintro e x10 ⟨rfl, hb10⟩
            have HR10 := Lib.hid (Base.then_below HR9.out hb10)
            have HT10 := Lib.hid (Base.then_below HT9.out hb10)
            clear hb10
            try clear q0 q1 q2 q3 y0 y1 y2
            obtain ⟨⟨q0, q1, q2, q3⟩, ⟨y0, y1, y2⟩, hbw10⟩ := HK.out _ HR10.out
            have HB10 := Lib.hid hbw10
            clear hbw10
            try clear g0 g1
            have g0 := (HKT.out _ HT10.out).1
            have g1 := (HKT.out _ HT10.out).2
            cases hsk : sk with
            | true =>
              cases hmk : mk with
              | true =>
                by_cases hle : md ≤ sd
                · have HLE := Lib.hid hle
                  have HF : Hid (z = 304) := Lib.hid (by rw [HE.out, hb0_, if_neg Bool.false_ne_true, HUN.out hb1_, Bool.and_false, if_neg (fun h9 => Bool.false_ne_true h9.1), HE1.out, hb2_, if_neg Bool.false_ne_true, HE2.out, HRD.out, hsk, hmk, if_pos ⟨rfl, HLE.out⟩])
                  go_wp2
                  go_ret
                  exact ⟨ret_n HF.out.symm, HB10.out⟩
                · have HLE := Lib.hid hle
                  have HF : Hid (z = 200) := Lib.hid (by rw [HE.out, hb0_, if_neg Bool.false_ne_true, HUN.out hb1_, Bool.and_false, if_neg (fun h9 => Bool.false_ne_true h9.1), HE1.out, hb2_, if_neg Bool.false_ne_true, HE2.out, if_neg (fun h9 => by have := HLE.out; omega)])
                  go_wp2
                  go_ret
                  exact ⟨ret_n HF.out.symm, HB10.out⟩
              | false =>
                have HF : Hid (z = 200) := Lib.hid (by rw [HE.out, hb0_, if_neg Bool.false_ne_true, HUN.out hb1_, Bool.and_false, if_neg (fun h9 => Bool.false_ne_true h9.1), HE1.out, hb2_, if_neg Bool.false_ne_true, HE2.out, hmk, Bool.false_and, Bool.and_false, if_neg (fun h9 => Bool.false_ne_true h9.1)])
                go_wp2
                go_ret
                exact ⟨ret_n HF.out.symm, HB10.out⟩
            | false =>
              have HF : Hid (z = 200) := Lib.hid (by rw [HE.out, hb0_, if_neg Bool.false_ne_true, HUN.out hb1_, Bool.and_false, if_neg (fun h9 => Bool.false_ne_true h9.1), HE1.out, hb2_, if_neg Bool.false_ne_true, HE2.out, hsk, Bool.and_false, Bool.and_false, if_neg (fun h9 => Bool.false_ne_true h9.1)])
              go_wp2
              go_ret
              exact ⟨ret_n HF.out.symm, HB10.out⟩
          | false =>
            have HF : Hid (z = 200) := Lib.hid (by rw [HE.out, hb0_, if_neg Bool.false_ne_true, HUN.out hb1_, Bool.and_false, if_neg (fun h9 => Bool.false_ne_true h9.1), HE1.out, hb2_, if_neg Bool.false_ne_true, HE2.out, HSN.out hb3_, Bool.and_false, Bool.and_false, if_neg (fun h9 => Bool.false_ne_true h9.1)])
            go_wp2
            go_ret
            exact ⟨ret_n HF.out.symm, HB9.out⟩
  · skip
    have HRD := Lib.hid hrd
    clear hrd
    go_enter Tryz.func16, Tryz.ntmps16
    have HB0 := Lib.hid (HK.out _ HR0.out).2.2
    obtain ⟨⟨q0, q1, q2, q3⟩, ⟨y0, y1, y2⟩, _⟩ := HK.out _ HR0.out
    go_wp2_with (fail)
    go_at_call 35
    refine (HXE.out _ HB0.out).mono ?_
    rintro e x1 ⟨rfl, hb1⟩
    have HR1 := Lib.hid (Base.then_below HR0.out hb1)
    clear hb1
    try clear q0 q1 q2 q3 y0 y1 y2
    obtain ⟨⟨q0, q1, q2, q3⟩, ⟨y0, y1, y2⟩, hbw1⟩ := HK.out _ HR1.out
    have HB1 := Lib.hid hbw1
    clear hbw1
    go_wp2_with (fail)
    go_at_call 34
    refine (HXT.out _).mono ?_
    rintro e x2 ⟨rfl, hb2⟩
    have HR2 := Lib.hid (Base.then_below HR1.out hb2)
    clear hb2
    try clear q0 q1 q2 q3 y0 y1 y2
    obtain ⟨⟨q0, q1, q2, q3⟩, ⟨y0, y1, y2⟩, hbw2⟩ := HK.out _ HR2.out
    have HB2 := Lib.hid hbw2
    clear hbw2
    have hba : Below x2.heap.size x2 (x2.alloc (.cells #[.bool gx, .string ⟨gy.toArray⟩] 62)) := (Below.refl _ _).alloc (Nat.le_refl _) _
    have HR3 := Lib.hid (Base.then_below HR2.out hba)
    have HT3 := Lib.hid (Below.refl (x2.alloc (.cells #[.bool gx, .string ⟨gy.toArray⟩] 62)).heap.size (x2.alloc (.cells #[.bool gx, .string ⟨gy.toArray⟩] 62)))
    have HKT : Hid (∀ W, Below (x2.alloc (.cells #[.bool gx, .string ⟨gy.toArray⟩] 62)).heap.size (x2.alloc (.cells #[.bool gx, .string ⟨gy.toArray⟩] 62)) W → W.cell? ⟨x2.heap.size, 0, none⟩ = some (.bool gx) ∧ W.cell? ⟨x2.heap.size, 1, none⟩ = some (.string ⟨gy.toArray⟩)) := Lib.hid (fun W hb => And.intro ((Kept.one hb).1 0 _ rfl) ((Kept.one hb).1 1 _ rfl))
    clear hba
    try clear q0 q1 q2 q3 y0 y1 y2
    obtain ⟨⟨q0, q1, q2, q3⟩, ⟨y0, y1, y2⟩, hbw3⟩ := HK.out _ HR3.out
    have HB3 := Lib.hid hbw3
    clear hbw3
    try clear g0 g1
    have g0 := (HKT.out _ HT3.out).1
    have g1 := (HKT.out _ HT3.out).2
    go_wp2_with (fail)
    go_at_call 35
    refine (HXL.out _ HB3.out).mono ?_
    rintro e x4 ⟨rfl, hb4⟩
    have HR4 := Lib.hid (Base.then_below HR3.out hb4)
    have HT4 := Lib.hid (Base.then_below HT3.out hb4)
    clear hb4
    try clear q0 q1 q2 q3 y0 y1 y2
    obtain ⟨⟨q0, q1, q2, q3⟩, ⟨y0, y1, y2⟩, hbw4⟩ := HK.out _ HR4.out
    have HB4 := Lib.hid hbw4
    clear hbw4
    try clear g0 g1
    have g0 := (HKT.out _ HT4.out).1
    have g1 := (HKT.out _ HT4.out).2
    go_wp2_with (fail)
    go_at_call 36
    refine (HXD.out _).mono ?_
    rintro e x5 ⟨rfl, hb5⟩
    have HR5 := Lib.hid (Base.then_below HR4.out hb5)
    have HT5 := Lib.hid (Base.then_below HT4.out hb5)
    clear hb5
    try clear q0 q1 q2 q3 y0 y1 y2
    obtain ⟨⟨q0, q1, q2, q3⟩, ⟨y0, y1, y2⟩, hbw5⟩ := HK.out _ HR5.out
    have HB5 := Lib.hid hbw5
    clear hbw5
    try clear g0 g1
    have g0 := (HKT.out _ HT5.out).1
    have g1 := (HKT.out _ HT5.out).2
    go_wp2_with (fail)
    go_at_call 37
    refine (HGI.out _ HB5.out).mono ?_
    rintro e x6 ⟨rfl, hb6⟩
    have HR6 := Lib.hid (Base.then_below HR5.out hb6)
    have HT6 := Lib.hid (Base.then_below HT5.out hb6)
    clear hb6
    try clear q0 q1 q2 q3 y0 y1 y2
    obtain ⟨⟨q0, q1, q2, q3⟩, ⟨y0, y1, y2⟩, hbw6⟩ := HK.out _ HR6.out
    have HB6 := Lib.hid hbw6
    clear hbw6
    try clear g0 g1
    have g0 := (HKT.out _ HT6.out).1
    have g1 := (HKT.out _ HT6.out).2
    cases hb0_ : b0 with
    | true =>
      go_wp2_with (fail)
      go_at_call 38
      refine (HAS.out _).mono ?_
      rintro e x7 ⟨rfl, hb7⟩
      have HR7 := Lib.hid (Base.then_below HR6.out hb7)
      have HT7 := Lib.hid (Base.then_below HT6.out hb7)
      clear hb7
      try clear q0 q1 q2 q3 y0 y1 y2
      obtain ⟨⟨q0, q1, q2, q3⟩, ⟨y0, y1, y2⟩, hbw7⟩ := HK.out _ HR7.out
      have HB7 := Lib.hid hbw7
      clear hbw7
      try clear g0 g1
      have g0 := (HKT.out _ HT7.out).1
      have g1 := (HKT.out _ HT7.out).2
      cases hf0 : f0 with
      | true =>
        go_wp2_with (fail)
        go_at_call 37
        refine (HGN.out _ HB7.out).mono ?_
        rintro e x8 ⟨rfl, hb8⟩
        have HR8 := Lib.hid (Base.then_below HR7.out hb8)
        have HT8 := Lib.hid (Base.then_below HT7.out hb8)
        clear hb8
        try clear q0 q1 q2 q3 y0 y1 y2
        obtain ⟨⟨q0, q1, q2, q3⟩, ⟨y0, y1, y2⟩, hbw8⟩ := HK.out _ HR8.out
        have HB8 := Lib.hid hbw8
        clear hbw8
        try clear g0 g1
        have g0 := (HKT.out _ HT8.out).1
        have g1 := (HKT.out _ HT8.out).2
        cases hb2_ : b2 with
        | true =>
          go_wp2_with (fail)
          go_at_call 38
          refine (HAW.out _).mono ?_
          rintro e x9 ⟨rfl, hb9⟩
          have HR9 := Lib.hid (Base.then_below HR8.out hb9)
          have HT9 := Lib.hid (Base.then_below HT8.out hb9)
          clear hb9
          try clear q0 q1 q2 q3 y0 y1 y2
          obtain ⟨⟨q0, q1, q2, q3⟩, ⟨y0, y1, y2⟩, hbw9⟩ := HK.out _ HR9.out
          have HB9 := Lib.hid hbw9
          clear hbw9
          try clear g0 g1
          have g0 := (HKT.out _ HT9.out).1
          have g1 := (HKT.out _ HT9.out).2
          cases hkn : kn with
          | true =>
            cases hf1 : f1 with
            | true =>
              have HF : Hid (z = 412) := Lib.hid (by rw [HE.out, hb0_, if_pos rfl, hf0, if_pos rfl, HE1.out, hb2_, if_pos rfl, HE3.out, hf1, if_pos rfl, HRD.out, if_neg Bool.false_ne_true])
              go_wp2
              go_ret
              exact ⟨ret_n HF.out.symm, HB9.out⟩
            | false =>
              have HF : Hid (z = 200) := Lib.hid (by rw [HE.out, hb0_, if_pos rfl, hf0, if_pos rfl, HE1.out, hb2_, if_pos rfl, HE3.out, hf1, if_neg Bool.false_ne_true])
              go_wp2
              go_ret
              exact ⟨ret_n HF.out.symm, HB9.out⟩
          | false =>
            have hf1 := HBD.out hkn
            have HF : Hid (z = 200) := Lib.hid (by rw [HE.out, hb0_, if_pos rfl, hf0, if_pos rfl, HE1.out, hb2_, if_pos rfl, HE3.out, hf1, if_neg Bool.false_ne_true])
            go_wp2
            go_ret
            exact ⟨ret_n HF.out.symm, HB9.out⟩
        | false =>
          go_wp2_with (fail)
          go_at_call 37
          refine (HGS.out _ HB8.out).mono ?_
          rintro e x9 ⟨rfl, hb9⟩
          have HR9 := Lib.hid (Base.then_below HR8.out hb9)
          have HT9 := Lib.hid (Base.then_below HT8.out hb9)
          clear hb9
          try clear q0 q1 q2 q3 y0 y1 y2
          obtain ⟨⟨q0, q1, q2, q3⟩, ⟨y0, y1, y2⟩, hbw9⟩ := HK.out _ HR9.out
          have HB9 := Lib.hid hbw9
          clear hbw9
          try clear g0 g1
          have g0 := (HKT.out _ HT9.out).1
          have g1 := (HKT.out _ HT9.out).2
          cases hb3_ : b3 with
          | true =>
            have HF : Hid (z = 200) := Lib.hid (by rw [HE.out, hb0_, if_pos rfl, hf0, if_pos rfl, HE1.out, hb2_, if_neg Bool.false_ne_true, HE2.out, HRD.out, Bool.false_and, if_neg (fun h9 => Bool.false_ne_true h9.1)])
            go_wp2
            go_ret
            exact ⟨ret_n HF.out.symm, HB9.out⟩
          | false =>
            have HF : Hid (z = 200) := Lib.hid (by rw [HE.out, hb0_, if_pos rfl, hf0, if_pos rfl, HE1.out, hb2_, if_neg Bool.false_ne_true, HE2.out, HSN.out hb3_, Bool.and_false, Bool.and_false, if_neg (fun h9 => Bool.false_ne_true h9.1)])
            go_wp2
            go_ret
            exact ⟨ret_n HF.out.symm, HB9.out⟩
      | false =>
        have HF : Hid (z = 412) := Lib.hid (by rw [HE.out, hb0_, if_pos rfl, hf0, if_neg Bool.false_ne_true])
        go_wp2
        go_ret
        exact ⟨ret_n HF.out.symm, HB7.out⟩
    | false =>
      go_wp2_with (fail)
      go_at_call 37
      refine (HGU.out _ HB6.out).mono ?_
      rintro e x7 ⟨rfl, hb7⟩
      have HR7 := Lib.hid (Base.then_below HR6.out hb7)
      have HT7 := Lib.hid (Base.then_below HT6.out hb7)
      clear hb7
      try clear q0 q1 q2 q3 y0 y1 y2
      obtain ⟨⟨q0, q1, q2, q3⟩, ⟨y0, y1, y2⟩, hbw7⟩ := HK.out _ HR7.out
      have HB7 := Lib.hid hbw7
      clear hbw7
      try clear g0 g1
      have g0 := (HKT.out _ HT7.out).1
      have g1 := (HKT.out _ HT7.out).2
      cases hb1_ : b1 with
      | true =>
        go_wp2_with (fail)
        go_at_call 36
        refine (HDU.out _).mono ?_
        rintro e x8 ⟨rfl, hb8⟩
        have HR8 := Lib.hid (Base.then_below HR7.out hb8)
        have HT8 := Lib.hid (Base.then_below HT7.out hb8)
        clear hb8
        try clear q0 q1 q2 q3 y0 y1 y2
        obtain ⟨⟨q0, q1, q2, q3⟩, ⟨y0, y1, y2⟩, hbw8⟩ := HK.out _ HR8.out
        have HB8 := Lib.hid hbw8
        clear hbw8
        try clear g0 g1
        have g0 := (HKT.out _ HT8.out).1
        have g1 := (HKT.out _ HT8.out).2
        cases huk : uk with
        | true =>
          cases hmk : mk with
          | true =>
            by_cases hgt : ud < md
            · have HGT := Lib.hid hgt
              have HF : Hid (z = 412) := Lib.hid (by rw [HE.out, hb0_, if_neg Bool.false_ne_true, huk, hmk, if_pos ⟨rfl, HGT.out⟩])
              go_wp2
              go_ret
              exact ⟨ret_n HF.out.symm, HB8.out⟩
            · have HGT := Lib.hid hgt
              go_wp2_with (fail)
              go_at_call 37
              refine (HGN.out _ HB8.out).mono ?_
              rintro e x9 ⟨rfl, hb9⟩
              have HR9 := Lib.hid (Base.then_below HR8.out hb9)
              have HT9 := Lib.hid (Base.then_below HT8.out hb9)
              clear hb9
              try clear q0 q1 q2 q3 y0 y1 y2
              obtain ⟨⟨q0, q1, q2, q3⟩, ⟨y0, y1, y2⟩, hbw9⟩ := HK.out _ HR9.out
              have HB9 := Lib.hid hbw9
              clear hbw9
              try clear g0 g1
              have g0 := (HKT.out _ HT9.out).1
              have g1 := (HKT.out _ HT9.out).2
              cases hb2_ : b2 with
              | true =>
                go_wp2_with (fail)
                go_at_call 38
                refine (HAW.out _).mono ?_
                rintro e x10 ⟨rfl, hb10⟩
                have HR10 := Lib.hid (Base.then_below HR9.out hb10)
                have HT10 := Lib.hid (Base.then_below HT9.out hb10)
                clear hb10
                try clear q0 q1 q2 q3 y0 y1 y2
                obtain ⟨⟨q0, q1, q2, q3⟩, ⟨y0, y1, y2⟩, hbw10⟩ := HK.out _ HR10.out
                have HB10 := Lib.hid hbw10
                clear hbw10
                try clear g0 g1
                have g0 := (HKT.out _ HT10.out).1
                have g1 := (HKT.out _ HT10.out).2
                cases hkn : kn with
                | true =>
                  cases hf1 : f1 with
                  | true =>
                    have HF : Hid (z = 412) := Lib.hid (by rw [HE.out, hb0_, if_neg Bool.false_ne_true, if_neg (fun h9 => by have := HGT.out; omega), HE1.out, hb2_, if_pos rfl, HE3.out, hf1, if_pos rfl, HRD.out, if_neg Bool.false_ne_true])
                    go_wp2
                    go_ret
                    exact ⟨ret_n HF.out.symm, HB10.out⟩
                  | false =>
                    have HF : Hid (z = 200) := Lib.hid (by rw [HE.out, hb0_, if_neg Bool.false_ne_true, if_neg (fun h9 => by have := HGT.out; omega), HE1.out, hb2_, if_pos rfl, HE3.out, hf1, if_neg Bool.false_ne_true])
                    go_wp2
                    go_ret
                    exact ⟨ret_n HF.out.symm, HB10.out⟩
                | false =>
                  have hf1 := HBD.out hkn
                  have HF : Hid (z = 200) := Lib.hid (by rw [HE.out, hb0_, if_neg Bool.false_ne_true, if_neg (fun h9 => by have := HGT.out; omega), HE1.out, hb2_, if_pos rfl, HE3.out, hf1, if_neg Bool.false_ne_true])
                  go_wp2
                  go_ret
                  exact ⟨ret_n HF.out.symm, HB10.out⟩
              | false =>
                go_wp2_with (fail)
                go_at_call 37
                refine (HGS.out _ HB9.out).mono ?_
                rintro e x10 ⟨rfl, hb10⟩
                have HR10 := Lib.hid (Base.then_below HR9.out hb10)
                have HT10 := Lib.hid (Base.then_below HT9.out hb10)
                clear hb10
                try clear q0 q1 q2 q3 y0 y1 y2
                obtain ⟨⟨q0, q1, q2, q3⟩, ⟨y0, y1, y2⟩, hbw10⟩ := HK.out _ HR10.out
                have HB10 := Lib.hid hbw10
                clear hbw10
                try clear g0 g1
                have g0 := (HKT.out _ HT10.out).1
                have g1 := (HKT.out _ HT10.out).2
                cases hb3_ : b3 with
                | true =>
                  have HF : Hid (z = 200) := Lib.hid (by rw [HE.out, hb0_, if_neg Bool.false_ne_true, if_neg (fun h9 => by have := HGT.out; omega), HE1.out, hb2_, if_neg Bool.false_ne_true, HE2.out, HRD.out, Bool.false_and, if_neg (fun h9 => Bool.false_ne_true h9.1)])
                  go_wp2
                  go_ret
                  exact ⟨ret_n HF.out.symm, HB10.out⟩
                | false =>
                  have HF : Hid (z = 200) := Lib.hid (by rw [HE.out, hb0_, if_neg Bool.false_ne_true, if_neg (fun h9 => by have := HGT.out; omega), HE1.out, hb2_, if_neg Bool.false_ne_true, HE2.out, HSN.out hb3_, Bool.and_false, Bool.and_false, if_neg (fun h9 => Bool.false_ne_true h9.1)])
                  go_wp2
                  go_ret
                  exact ⟨ret_n HF.out.symm, HB10.out⟩
          | false =>
            go_wp2_with (fail)
            go_at_call 37
            refine (HGN.out _ HB8.out).mono ?_
            rintro e x9 ⟨rfl, hb9⟩
            have HR9 := Lib.hid (Base.then_below HR8.out hb9)
            have HT9 := Lib.hid (Base.then_below HT8.out hb9)
            clear hb9
            try clear q0 q1 q2 q3 y0 y1 y2
            obtain ⟨⟨q0, q1, q2, q3⟩, ⟨y0, y1, y2⟩, hbw9⟩ := HK.out _ HR9.out
            have HB9 := Lib.hid hbw9
            clear hbw9
            try clear g0 g1
            have g0 := (HKT.out _ HT9.out).1
            have g1 := (HKT.out _ HT9.out).2
            cases hb2_ : b2 with
            | true =>
              go_wp2_with (fail)
              go_at_call 38
              refine (HAW.out _).mono ?_
              rintro e x10 ⟨rfl, hb10⟩
              have HR10 := Lib.hid (Base.then_below HR9.out hb10)
              have HT10 := Lib.hid (Base.then_below HT9.out hb10)
              clear hb10
              try clear q0 q1 q2 q3 y0 y1 y2
              obtain ⟨⟨q0, q1, q2, q3⟩, ⟨y0, y1, y2⟩, hbw10⟩ := HK.out _ HR10.out
              have HB10 := Lib.hid hbw10
              clear hbw10
              try clear g0 g1
              have g0 := (HKT.out _ HT10.out).1
              have g1 := (HKT.out _ HT10.out).2
              cases hkn : kn with
              | true =>
                cases hf1 : f1 with
                | true =>
                  have HF : Hid (z = 412) := Lib.hid (by rw [HE.out, hb0_, if_neg Bool.false_ne_true, hmk, Bool.false_and, if_neg (fun h9 => Bool.false_ne_true h9.1), HE1.out, hb2_, if_pos rfl, HE3.out, hf1, if_pos rfl, HRD.out, if_neg Bool.false_ne_true])
                  go_wp2
                  go_ret
                  exact ⟨ret_n HF.out.symm, HB10.out⟩
                | false =>
                  have HF : Hid (z = 200) := Lib.hid (by rw [HE.out, hb0_, if_neg Bool.false_ne_true, hmk, Bool.false_and, if_neg (fun h9 => Bool.false_ne_true h9.1), HE1.out, hb2_, if_pos rfl, HE3.out, hf1, if_neg Bool.false_ne_true])
                  go_wp2
                  go_ret
                  exact ⟨ret_n HF.out.symm, HB10.out⟩
              | false =>
                have hf1 := HBD.out hkn
                have HF : Hid (z = 200) := Lib.hid (by rw [HE.out, hb0_, if_neg Bool.false_ne_true, hmk, Bool.false_and, if_neg (fun h9 => Bool.false_ne_true h9.1), HE1.out, hb2_, if_pos rfl, HE3.out, hf1, if_neg Bool.false_ne_true])
                go_wp2
                go_ret
                exact ⟨ret_n HF.out.symm, HB10.out⟩
            | false =>
              go_wp2_with (fail)
              go_at_call 37
              refine (HGS.out _ HB9.out).mono ?_
              rintro e x10 ⟨rfl, hb10⟩
              have HR10 := Lib.hid (Base.then_below HR9.out hb10)
              have HT10 := Lib.hid (Base.then_below HT9.out hb10)
              clear hb10
              try clear q0 q1 q2 q3 y0 y1 y2
              obtain ⟨⟨q0, q1, q2, q3⟩, ⟨y0, y1, y2⟩, hbw10⟩ := HK.out _ HR10.out
              have HB10 := Lib.hid hbw10
              clear hbw10
              try clear g0 g1
              have g0 := (HKT.out _ HT10.out).1
              have g1 := (HKT.out _ HT10.out).2
              cases hb3_ : b3 with
              | true =>
                have HF : Hid (z = 200) := Lib.hid (by rw [HE.out, hb0_, if_neg Bool.false_ne_true, hmk, Bool.false_and, if_neg (fun h9 => Bool.false_ne_true h9.1), HE1.out, hb2_, if_neg Bool.false_ne_true, HE2.out, HRD.out, Bool.false_and, if_neg (fun h9 => Bool.false_ne_true h9.1)])
                go_wp2
                go_ret
                exact ⟨ret_n HF.out.symm, HB10.out⟩
              | false =>
                have HF : Hid (z = 200) := Lib.hid (by rw [HE.out, hb0_, if_neg Bool.false_ne_true, hmk, Bool.false_and, if_neg (fun h9 => Bool.false_ne_true h9.1), HE1.out, hb2_, if_neg Bool.false_ne_true, HE2.out, HSN.out hb3_, Bool.and_false, Bool.and_false, if_neg (fun h9 => Bool.false_ne_true h9.1)])
                go_wp2
                go_ret
                exact ⟨ret_n HF.out.symm, HB10.out⟩
        | false =>
          go_wp2_with (fail)
          go_at_call 37
          refine (HGN.out _ HB8.out).mono ?_
          rintro e x9 ⟨rfl, hb9⟩
          have HR9 := Lib.hid (Base.then_below HR8.out hb9)
          have HT9 := Lib.hid (Base.then_below HT8.out hb9)
          clear hb9
          try clear q0 q1 q2 q3 y0 y1 y2
          obtain ⟨⟨q0, q1, q2, q3⟩, ⟨y0, y1, y2⟩, hbw9⟩ := HK.out _ HR9.out
          have HB9 := Lib.hid hbw9
          clear hbw9
          try clear g0 g1
          have g0 := (HKT.out _ HT9.out).1
          have g1 := (HKT.out _ HT9.out).2
          cases hb2_ : b2 with
          | true =>
            go_wp2_with (fail)
            go_at_call 38
            refine (HAW.out _).mono ?_
            rintro e x10 ⟨rfl, hb10⟩
            have HR10 := Lib.hid (Base.then_below HR9.out hb10)
            have HT10 := Lib.hid (Base.then_below HT9.out hb10)
            clear hb10
            try clear q0 q1 q2 q3 y0 y1 y2
            obtain ⟨⟨q0, q1, q2, q3⟩, ⟨y0, y1, y2⟩, hbw10⟩ := HK.out _ HR10.out
            have HB10 := Lib.hid hbw10
            clear hbw10
            try clear g0 g1
            have g0 := (HKT.out _ HT10.out).1
            have g1 := (HKT.out _ HT10.out).2
            cases hkn : kn with
            | true =>
              cases hf1 : f1 with
              | true =>
                have HF : Hid (z = 412) := Lib.hid (by rw [HE.out, hb0_, if_neg Bool.false_ne_true, huk, Bool.and_false, if_neg (fun h9 => Bool.false_ne_true h9.1), HE1.out, hb2_, if_pos rfl, HE3.out, hf1, if_pos rfl, HRD.out, if_neg Bool.false_ne_true])
                go_wp2
                go_ret
                exact ⟨ret_n HF.out.symm, HB10.out⟩
              | false =>
                have HF : Hid (z = 200) := Lib.hid (by rw [HE.out, hb0_, if_neg Bool.false_ne_true, huk, Bool.and_false, if_neg (fun h9 => Bool.false_ne_true h9.1), HE1.out, hb2_, if_pos rfl, HE3.out, hf1, if_neg Bool.false_ne_true])
                go_wp2
                go_ret
                exact ⟨ret_n HF.out.symm, HB10.out⟩
            | false =>
              have hf1 := HBD.out hkn
              have HF : Hid (z = 200) := Lib.hid (by rw [HE.out, hb0_, if_neg Bool.false_ne_true, huk, Bool.and_false, if_neg (fun h9 => Bool.false_ne_true h9.1), HE1.out, hb2_, if_pos rfl, HE3.out, hf1, if_neg Bool.false_ne_true])
              go_wp2
              go_ret
              exact ⟨ret_n HF.out.symm, HB10.out⟩
          | false =>
            go_wp2_with (fail)
            go_at_call 37
            refine (HGS.out _ HB9.out).mono ?_
            rintro e x10 ⟨rfl, hb10⟩
            have HR10 := Lib.hid (Base.then_below HR9.out hb10)
            have HT10 := Lib.hid (Base.then_below HT9.out hb10)
            clear hb10
            try clear q0 q1 q2 q3 y0 y1 y2
            obtain ⟨⟨q0, q1, q2, q3⟩, ⟨y0, y1, y2⟩, hbw10⟩ := HK.out _ HR10.out
            have HB10 := Lib.hid hbw10
            clear hbw10
            try clear g0 g1
            have g0 := (HKT.out _ HT10.out).1
            have g1 := (HKT.out _ HT10.out).2
            cases hb3_ : b3 with
            | true =>
              have HF : Hid (z = 200) := Lib.hid (by rw [HE.out, hb0_, if_neg Bool.false_ne_true, huk, Bool.and_false, if_neg (fun h9 => Bool.false_ne_true h9.1), HE1.out, hb2_, if_neg Bool.false_ne_true, HE2.out, HRD.out, Bool.false_and, if_neg (fun h9 => Bool.false_ne_true h9.1)])
              go_wp2
              go_ret
              exact ⟨ret_n HF.out.symm, HB10.out⟩
            | false =>
              have HF : Hid (z = 200) := Lib.hid (by rw [HE.out, hb0_, if_neg Bool.false_ne_true, huk, Bool.and_false, if_neg (fun h9 => Bool.false_ne_true h9.1), HE1.out, hb2_, if_neg Bool.false_ne_true, HE2.out, HSN.out hb3_, Bool.and_false, Bool.and_false, if_neg (fun h9 => Bool.false_ne_true h9.1)])
              go_wp2
              go_ret
              exact ⟨ret_n HF.out.symm, HB10.out⟩
      | false =>
        go_wp2_with (fail)
        go_at_call 37
        refine (HGN.out _ HB7.out).mono ?_
        rintro e x8 ⟨rfl, hb8⟩
        have HR8 := Lib.hid (Base.then_below HR7.out hb8)
        have HT8 := Lib.hid (Base.then_below HT7.out hb8)
        clear hb8
        try clear q0 q1 q2 q3 y0 y1 y2
        obtain ⟨⟨q0, q1, q2, q3⟩, ⟨y0, y1, y2⟩, hbw8⟩ := HK.out _ HR8.out
        have HB8 := Lib.hid hbw8
        clear hbw8
        try clear g0 g1
        have g0 := (HKT.out _ HT8.out).1
        have g1 := (HKT.out _ HT8.out).2
        cases hb2_ : b2 with
        | true =>
          go_wp2_with (fail)
          go_at_call 38
          refine (HAW.out _).mono ?_
          rintro e x9 ⟨rfl, hb9⟩
          have HR9 := Lib.hid (Base.then_below HR8.out hb9)
          have HT9 := Lib.hid (Base.then_below HT8.out hb9)
          clear hb9
          try clear q0 q1 q2 q3 y0 y1 y2
          obtain ⟨⟨q0, q1, q2, q3⟩, ⟨y0, y1, y2⟩, hbw9⟩ := HK.out _ HR9.out
          have HB9 := Lib.hid hbw9
          clear hbw9
          try clear g0 g1
          have g0 := (HKT.out _ HT9.out).1
          have g1 := (HKT.out _ HT9.out).2
          cases hkn : kn with
          | true =>
            cases hf1 : f1 with
            | true =>
              have HF : Hid (z = 412) := Lib.hid (by rw [HE.out, hb0_, if_neg Bool.false_ne_true, HUN.out hb1_, Bool.and_false, if_neg (fun h9 => Bool.false_ne_true h9.1), HE1.out, hb2_, if_pos rfl, HE3.out, hf1, if_pos rfl, HRD.out, if_neg Bool.false_ne_true])
              go_wp2
              go_ret
              exact ⟨ret_n HF.out.symm, HB9.out⟩
            | false =>
              have HF : Hid (z = 200) := Lib.hid (by rw [HE.out, hb0_, if_neg Bool.false_ne_true, HUN.out hb1_, Bool.and_false, if_neg (fun h9 => Bool.false_ne_true h9.1), HE1.out, hb2_, if_pos rfl, HE3.out, hf1, if_neg Bool.false_ne_true])
              go_wp2
              go_ret
              exact ⟨ret_n HF.out.symm, HB9.out⟩
          | false =>
            have hf1 := HBD.out hkn
            have HF : Hid (z = 200) := Lib.hid (by rw [HE.out, hb0_, if_neg Bool.false_ne_true, HUN.out hb1_, Bool.and_false, if_neg (fun h9 => Bool.false_ne_true h9.1), HE1.out, hb2_, if_pos rfl, HE3.out, hf1, if_neg Bool.false_ne_true])
            go_wp2
            go_ret
            exact ⟨ret_n HF.out.symm, HB9.out⟩
        | false =>
          go_wp2_with (fail)
          go_at_call 37
          refine (HGS.out _ HB8.out).mono ?_
          rintro e x9 ⟨rfl, hb9⟩
          have HR9 := Lib.hid (Base.then_below HR8.out hb9)
          have HT9 := Lib.hid (Base.then_below HT8.out hb9)
          clear hb9
          try clear q0 q1 q2 q3 y0 y1 y2
          obtain ⟨⟨q0, q1, q2, q3⟩, ⟨y0, y1, y2⟩, hbw9⟩ := HK.out _ HR9.out
          have HB9 := Lib.hid hbw9
          clear hbw9
          try clear g0 g1
          have g0 := (HKT.out _ HT9.out).1
          have g1 := (HKT.out _ HT9.out).2
          cases hb3_ : b3 with
          | true =>
            have HF : Hid (z = 200) := Lib.hid (by rw [HE.out, hb0_, if_neg Bool.false_ne_true, HUN.out hb1_, Bool.and_false, if_neg (fun h9 => Bool.false_ne_true h9.1), HE1.out, hb2_, if_neg Bool.false_ne_true, HE2.out, HRD.out, Bool.false_and, if_neg (fun h9 => Bool.false_ne_true h9.1)])
            go_wp2
            go_ret
            exact ⟨ret_n HF.out.symm, HB9.out⟩
          | false =>
            have HF : Hid (z = 200) := Lib.hid (by rw [HE.out, hb0_, if_neg Bool.false_ne_true, HUN.out hb1_, Bool.and_false, if_neg (fun h9 => Bool.false_ne_true h9.1), HE1.out, hb2_, if_neg Bool.false_ne_true, HE2.out, HSN.out hb3_, Bool.and_false, Bool.and_false, if_neg (fun h9 => Bool.false_ne_true h9.1)])
            go_wp2
            go_ret
            exact ⟨ret_n HF.out.symm, HB9.out⟩
end Go.Proofs.YtddpfhcmifnagaaGreatDoor.Cnd
