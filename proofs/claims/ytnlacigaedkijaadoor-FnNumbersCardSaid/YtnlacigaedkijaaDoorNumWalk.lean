/-
  THE WALK of the law of chapter 1.
-/
import Derived.Test.YtnlacigaedkijaaDoorBase
import Derived.Test.YtnlacigaedkijaaDoorNumLaw
import Derived.Test.YtnlacigaedkijaaDoorNumImplMod
import Derived.Test.YtnlacigaedkijaaDoorNumImplFd
import Derived.Test.YtnlacigaedkijaaDoorDrawNum
import Derived.Test.YtnlacigaedkijaaDoorParImpl
import Derived.Test.YtnlacigaedkijaaDoorLaidErrs
namespace Go.Proofs.YtnlacigaedkijaaDoor.fnNumbers
open Go Go.RowKit
set_option linter.unusedVariables false

set_option maxHeartbeats 4000000 in
theorem walk (b0 : Option Addr) (l0 c0 : Nat) (w0 : l0 ≤ maxLen) (w : World) (y0 : l0 ≤ 1048576 → Cur.Bytes w w.heap.size (.slice b0 l0 c0)) (ht : Fmt.Tens w) (hr : Par.Errs w) :
    Calls Tryd.prog 3 #[.slice b0 l0 c0] w fun e w' => e = .returned (.bool true) ∧ Below w.heap.size w w' := by
  clear w0
  by_cases hbig : 1048576 < (l0 : Int)
  · go_enter Tryd.func3, Tryd.ntmps3
    go_wp2_with (go_at_call 7; refine (Cur.big_yes _ _ _ _ hbig).mono ?_; rintro e w' ⟨rfl, rfl⟩)
    go_ret
    exact ⟨rfl, Below.refl _ _⟩
  have hby := y0 (by omega)
  clear y0
  go_enter Tryd.func3, Tryd.ntmps3
  go_wp2_with (fail)
  go_at_call 7
  refine (Cur.big_no _ _ _ _ (by omega)).mono ?_
  rintro e w' ⟨rfl, rfl⟩
  go_wp2_with (fail)
  go_at_call 8
  refine (Cur.draw_one _ _ _ hby (Nat.le_refl _)).mono ?_
  rintro e w1 ⟨n, hn, rfl, hb1⟩
  have ht1 := Fmt.tens_below ht hb1
  have hr1 := Par.errs_below hr hb1
  go_wp2_with (fail)
  go_at_call 9
  refine (Fmt.impl_fmt n hn.1 hn.2 _ ht1).mono ?_
  rintro e w2 ⟨rfl, k2⟩
  have hb2 := Base.then_below hb1 k2
  have ht2 := Fmt.tens_below ht1 k2
  have hr2 := Par.errs_below hr1 k2
  have hsz : ByteArray.size ⟨(Lib.itoa n).toArray⟩ ≤ 281474976710656 := by
    have := (Fmt.itoa_len hn.1 hn.2).2
    simp [ByteArray.size]; omega
  have HSZ := Lib.hid hsz
  clear hsz k2
  go_wp2_with (fail)
  go_at_call 10
  refine (Par.impl_parse _ _ HSZ.out ht2 hr2).mono ?_
  rintro e w3 ⟨m, ok, hp, rfl, k3⟩
  have HP := Lib.hid (NumLaw.read_back hp)
  have hb3 := Base.then_below hb2 k3
  have ht3 := Fmt.tens_below ht2 k3
  clear hp k3 hr2 ht2 hr1 ht1 HSZ
  go_wp2_with (fail)
  go_at_call 11
  refine (Cur.draw_div _ _ _ (Cur.bytes_below hby hb3) hb3.size).mono ?_
  rintro e w4 ⟨a, b, ha, hb, rfl, k4⟩
  have hb4 := Base.then_below hb3 k4
  have ht4 := Fmt.tens_below ht3 k4
  have wa := Go.WalkArith.wf_i64 ha
  have wb := Go.WalkArith.wf_i64 hb
  clear k4 ht3
  go_wp2_with (fail)
  go_at_call 12
  refine (NumDiv.impl_fd a b _ wa wb).mono ?_
  rintro e w' ⟨rfl, rfl⟩
  go_wp2_with (fail)
  go_at_call 13
  refine (NumDiv.impl_mod a b _ wa wb).mono ?_
  rintro e w' ⟨rfl, rfl⟩
  go_wp2_with (fail)
  go_at_call 14
  refine (Cur.draw_dig _ _ _ (Cur.bytes_below hby hb4) hb4.size).mono ?_
  rintro e w5 ⟨c, width, hc, hwd, rfl, k5⟩
  have hb5 := Base.then_below hb4 k5
  have ht5 := Fmt.tens_below ht4 k5
  clear k5 ht4
  go_wp2_with (fail)
  go_at_call 15
  refine (Dig.impl_digits c width _ hc.2 ht5).mono ?_
  rintro e w6 ⟨rfl, k6⟩
  have hb6 := Base.then_below hb5 k6
  have hdl : Dig.mn width ≤ ((Dig.digs c width).length : Int) := (Dig.digs_len hc.2).1
  clear k6 ht5 hb1 hb2 hb3 hb4 hb5
  by_cases hbr : 1 ≤ b ∧ b ≤ 1000000000000
  · obtain ⟨hr1, hr2⟩ := hbr
    have hq : (wrap64 (wrap64 (NumDiv.fd a b * b) + NumDiv.md a b) == a) = true := by rw [NumLaw.dividend ha hr1 hr2]; simp
    obtain ⟨hm0, hm1⟩ := NumLaw.md_bd (a := a) hr1 hr2
    rcases HP.out with ⟨n0, n1, rfl, rfl⟩ | ⟨no, rfl, rfl⟩
    · clear HP
      go_wp2_with (first | (go_at_call 16; refine (Dig.impl_min20 width _).mono ?_; rintro e w' ⟨rfl, rfl⟩) | (go_at_call 17; refine (NumLaw.max_pos _ _ hm0).mono ?_; rintro e w' ⟨rfl, rfl⟩))
      go_ret
      exact ⟨rfl, hb6⟩
    · clear HP
      by_cases hn0 : 0 ≤ n
      · have hn1 : 1000000000000 < n := by omega
        clear no
        go_wp2_with (first | (go_at_call 16; refine (Dig.impl_min20 width _).mono ?_; rintro e w' ⟨rfl, rfl⟩) | (go_at_call 17; refine (NumLaw.max_pos _ _ hm0).mono ?_; rintro e w' ⟨rfl, rfl⟩))
        go_ret
        exact ⟨rfl, hb6⟩
      · clear no
        go_wp2_with (first | (go_at_call 16; refine (Dig.impl_min20 width _).mono ?_; rintro e w' ⟨rfl, rfl⟩) | (go_at_call 17; refine (NumLaw.max_pos _ _ hm0).mono ?_; rintro e w' ⟨rfl, rfl⟩))
        go_ret
        exact ⟨rfl, hb6⟩
  · by_cases hb1 : b < 1
    · clear hbr
      rcases HP.out with ⟨n0, n1, rfl, rfl⟩ | ⟨no, rfl, rfl⟩
      · clear HP
        go_wp2_with (go_at_call 16; refine (Dig.impl_min20 width _).mono ?_; rintro e w' ⟨rfl, rfl⟩)
        go_ret
        exact ⟨rfl, hb6⟩
      · clear HP
        by_cases hn0 : 0 ≤ n
        · have hn1 : 1000000000000 < n := by omega
          clear no
          go_wp2_with (go_at_call 16; refine (Dig.impl_min20 width _).mono ?_; rintro e w' ⟨rfl, rfl⟩)
          go_ret
          exact ⟨rfl, hb6⟩
        · clear no
          go_wp2_with (go_at_call 16; refine (Dig.impl_min20 width _).mono ?_; rintro e w' ⟨rfl, rfl⟩)
          go_ret
          exact ⟨rfl, hb6⟩
    · have hb2 : 1000000000000 < b := by omega
      clear hbr
      rcases HP.out with ⟨n0, n1, rfl, rfl⟩ | ⟨no, rfl, rfl⟩
      · clear HP
        go_wp2_with (go_at_call 16; refine (Dig.impl_min20 width _).mono ?_; rintro e w' ⟨rfl, rfl⟩)
        go_ret
        exact ⟨rfl, hb6⟩
      · clear HP
        by_cases hn0 : 0 ≤ n
        · have hn1 : 1000000000000 < n := by omega
          clear no
          go_wp2_with (go_at_call 16; refine (Dig.impl_min20 width _).mono ?_; rintro e w' ⟨rfl, rfl⟩)
          go_ret
          exact ⟨rfl, hb6⟩
        · clear no
          go_wp2_with (go_at_call 16; refine (Dig.impl_min20 width _).mono ?_; rintro e w' ⟨rfl, rfl⟩)
          go_ret
          exact ⟨rfl, hb6⟩
end Go.Proofs.YtnlacigaedkijaaDoor.fnNumbers
