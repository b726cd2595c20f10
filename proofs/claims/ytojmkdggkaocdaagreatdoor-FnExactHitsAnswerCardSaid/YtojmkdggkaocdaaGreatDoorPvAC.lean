/-
  CONTRACTS AND PLAIN FACTS, several texts in one; each says in its own words what it proves.
-/
import Derived.Test.YtojmkdggkaocdaaGreatDoorPvAB
import Derived.Test.YtojmkdggkaocdaaGreatDoorPvM
import Derived.Lib.AppendStr
import Derived.Laws.DeepStrings4
import Derived.Test.YtojmkdggkaocdaaGreatDoorPvJ

/-
  CONTRACTS of the program's isPlainByte, normalCode and normalCodes; nothing that was there before is changed.
-/
namespace Go.Proofs.YtojmkdggkaocdaaGreatDoor.Nt
open Go Go.RowKit Bys
set_option linter.unusedVariables false
set_option maxRecDepth 1000000
set_option maxRecDepth 1000000

def pm : List UInt8 := [45, 46, 95, 126]
def pmk (c : UInt8) : Int := Lib.indexByte pm c
theorem pmk_ge {c : UInt8} : 0 ≤ pmk c ↔ pm.contains c = true := Tx.index_contains pm c
theorem plainb_let {c : UInt8} (h : Tx.letc c = true) : plainb c = true := by unfold plainb; rw [h, Bool.true_or]
theorem plainb_no {c : UInt8} (h : Tx.letc c = false) : plainb c = pm.contains c := by
  unfold plainb pm; rw [h, Bool.false_or]
  simp only [List.contains_cons, List.contains_nil, Bool.or_false]
  cases (c == 45) <;> cases (c == 46) <;> cases (c == 95) <;> rfl
theorem pidx_byte (c : UInt8) (w : World) :
    Calls Tryz.prog 182 #[.string ⟨#[45, 46, 95, 126]⟩, .int .u8 (c.toNat : Int)] w fun e w' => e = .returned (.int .i64 (pmk c)) ∧ w = w' := by
  refine (Tryz.strings_IndexByte _ _ _).mono ?_
  rintro e w' ⟨rfl, rfl⟩
  refine ⟨?_, rfl⟩
  have : ((c.toNat : Int).toNat.toUInt8) = c := by simp
  rw [this]; rfl

set_option maxHeartbeats 1000000 in
theorem plain_byte (c : UInt8) (w : World) : Calls Tryz.prog 215 #[.int .u8 (c.toNat : Int)] w fun e w' => e = .returned (.bool (plainb c)) ∧ w = w' := by
  by_cases hl : Tx.letc c = true
  · rw [plainb_let hl]
    have h3 : (97 ≤ (c.toNat : Int) ∧ (c.toNat : Int) ≤ 122) ∨ (65 ≤ (c.toNat : Int) ∧ (c.toNat : Int) ≤ 90) ∨ (48 ≤ (c.toNat : Int) ∧ (c.toNat : Int) ≤ 57) := by
      unfold Tx.letc at hl; simp at hl; omega
    clear hl
    rcases h3 with ⟨h1, h2⟩ | ⟨h1, h2⟩ | ⟨h1, h2⟩
    · go_enter Tryz.func215, Tryz.ntmps215
      go_wp2
      go_ret
      exact ⟨rfl, rfl⟩
    · have h3 : ¬ 97 ≤ (c.toNat : Int) := by omega
      go_enter Tryz.func215, Tryz.ntmps215
      go_wp2_with (go_at_call 181; refine (Tx.up_yes _ _ h1 h2).mono ?_; rintro e w' ⟨rfl, rfl⟩)
      go_ret
      exact ⟨rfl, rfl⟩
    · have h3 : ¬ 97 ≤ (c.toNat : Int) := by omega
      have h4 : (c.toNat : Int) < 65 ∨ 90 < (c.toNat : Int) := by omega
      have H4 := Lib.hid h4
      clear h4
      go_enter Tryz.func215, Tryz.ntmps215
      go_wp2_with (go_at_call 181; refine (Tx.up_no _ _ H4.out).mono ?_; rintro e w' ⟨rfl, rfl⟩)
      go_ret
      exact ⟨rfl, rfl⟩
  · have hl' : Tx.letc c = false := by simpa using hl
    rw [plainb_no hl']
    have h3 : ((c.toNat : Int) < 97 ∨ 122 < (c.toNat : Int)) ∧ ((c.toNat : Int) < 65 ∨ 90 < (c.toNat : Int)) ∧ ((c.toNat : Int) < 48 ∨ 57 < (c.toNat : Int)) := by
      unfold Tx.letc at hl'; simp at hl'; omega
    clear hl hl'
    obtain ⟨h1, h4, h5⟩ := h3
    have H4 := Lib.hid h4
    clear h4
    have hm : 0 ≤ pmk c ↔ pm.contains c = true := pmk_ge
    rcases hmk : pm.contains c with _ | _
    · have h6 : ¬ 0 ≤ pmk c := by rw [hm, hmk]; simp
      clear hm hmk
      rcases h1 with h1 | h1 <;> rcases h5 with h5 | h5
      all_goals first | (exfalso; omega) | skip
      · have g1 : ¬ 97 ≤ (c.toNat : Int) := by omega
        have g2 : ¬ 48 ≤ (c.toNat : Int) := by omega
        clear h1 h5
        go_enter Tryz.func215, Tryz.ntmps215
        go_wp2_with (first | (go_at_call 181; refine (Tx.up_no _ _ H4.out).mono ?_; rintro e w' ⟨rfl, rfl⟩) | (go_at_call 182; refine (pidx_byte c _).mono ?_; rintro e w' ⟨rfl, rfl⟩))
        go_ret
        first | exact ⟨rfl, rfl⟩ | exact ⟨Tx.ret_bool (by simp; omega), rfl⟩
      · have g1 : ¬ 97 ≤ (c.toNat : Int) := by omega
        have g2 : 48 ≤ (c.toNat : Int) := by omega
        have g3 : ¬ (c.toNat : Int) ≤ 57 := by omega
        clear h1 h5
        go_enter Tryz.func215, Tryz.ntmps215
        go_wp2_with (first | (go_at_call 181; refine (Tx.up_no _ _ H4.out).mono ?_; rintro e w' ⟨rfl, rfl⟩) | (go_at_call 182; refine (pidx_byte c _).mono ?_; rintro e w' ⟨rfl, rfl⟩))
        go_ret
        first | exact ⟨rfl, rfl⟩ | exact ⟨Tx.ret_bool (by simp; omega), rfl⟩
      · have g1 : 97 ≤ (c.toNat : Int) := by omega
        have g2 : 48 ≤ (c.toNat : Int) := by omega
        have g3 : ¬ (c.toNat : Int) ≤ 57 := by omega
        have g4 : ¬ (c.toNat : Int) ≤ 122 := by omega
        clear h1 h5
        go_enter Tryz.func215, Tryz.ntmps215
        go_wp2_with (first | (go_at_call 181; refine (Tx.up_no _ _ H4.out).mono ?_; rintro e w' ⟨rfl, rfl⟩) | (go_at_call 182; refine (pidx_byte c _).mono ?_; rintro e w' ⟨rfl, rfl⟩))
        go_ret
        first | exact ⟨rfl, rfl⟩ | exact ⟨Tx.ret_bool (by simp; omega), rfl⟩
    · have h6 : 0 ≤ pmk c := by rw [hm]; exact hmk
      clear hm hmk
      rcases h1 with h1 | h1 <;> rcases h5 with h5 | h5
      all_goals first | (exfalso; omega) | skip
      · have g1 : ¬ 97 ≤ (c.toNat : Int) := by omega
        have g2 : ¬ 48 ≤ (c.toNat : Int) := by omega
        clear h1 h5
        go_enter Tryz.func215, Tryz.ntmps215
        go_wp2_with (first | (go_at_call 181; refine (Tx.up_no _ _ H4.out).mono ?_; rintro e w' ⟨rfl, rfl⟩) | (go_at_call 182; refine (pidx_byte c _).mono ?_; rintro e w' ⟨rfl, rfl⟩))
        go_ret
        first | exact ⟨rfl, rfl⟩ | exact ⟨Tx.ret_bool (by simp; omega), rfl⟩
      · have g1 : ¬ 97 ≤ (c.toNat : Int) := by omega
        have g2 : 48 ≤ (c.toNat : Int) := by omega
        have g3 : ¬ (c.toNat : Int) ≤ 57 := by omega
        clear h1 h5
        go_enter Tryz.func215, Tryz.ntmps215
        go_wp2_with (first | (go_at_call 181; refine (Tx.up_no _ _ H4.out).mono ?_; rintro e w' ⟨rfl, rfl⟩) | (go_at_call 182; refine (pidx_byte c _).mono ?_; rintro e w' ⟨rfl, rfl⟩))
        go_ret
        first | exact ⟨rfl, rfl⟩ | exact ⟨Tx.ret_bool (by simp; omega), rfl⟩
      · have g1 : 97 ≤ (c.toNat : Int) := by omega
        have g2 : 48 ≤ (c.toNat : Int) := by omega
        have g3 : ¬ (c.toNat : Int) ≤ 57 := by omega
        have g4 : ¬ (c.toNat : Int) ≤ 122 := by omega
        clear h1 h5
        go_enter Tryz.func215, Tryz.ntmps215
        go_wp2_with (first | (go_at_call 181; refine (Tx.up_no _ _ H4.out).mono ?_; rintro e w' ⟨rfl, rfl⟩) | (go_at_call 182; refine (pidx_byte c _).mono ?_; rintro e w' ⟨rfl, rfl⟩))
        go_ret
        first | exact ⟨rfl, rfl⟩ | exact ⟨Tx.ret_bool (by simp; omega), rfl⟩

/-- What a percent sign in front of l is written as. -/
def codep (a b : UInt8) : List UInt8 × Bool := if hexn a < 16 ∧ hexn b < 16 then (code (hexn a) (hexn b), true) else ([], false)
theorem up_fin : ∀ r : Fin 256, hexn (UInt8.ofNat r.1) < 16 → Lib.toUpperA [UInt8.ofNat r.1] = [dig (hexn (UInt8.ofNat r.1))] ∧ r.1 < 128 := by decide +kernel
theorem up_one {c : UInt8} (h : hexn c < 16) : Lib.toUpperA [c] = [dig (hexn c)] ∧ c.toNat < 128 := by
  have := up_fin ⟨c.toNat, c.toNat_lt⟩
  simp only [UInt8.ofNat_toNat] at this
  exact this h
theorem up_three {a b : UInt8} (h1 : hexn a < 16) (h2 : hexn b < 16) : Lib.toUpperA [37, a, b] = [37, dig (hexn a), dig (hexn b)] := by
  have e1 := (up_one h1).1
  have e2 := (up_one h2).1
  have e0 : Lib.toUpperA [37] = [37] := by decide
  unfold Lib.toUpperA at *
  simp only [List.map_cons, List.map_nil, List.cons.injEq, and_true] at *
  exact ⟨e0, e1, e2⟩

theorem code_short (s : ByteArray) (w : World) (hs : s.size < 3) : Calls Tryz.prog 186 #[.string s] w (PairEnd ([], false) w) := by
  have HB := Lib.hid (Below.refl w.heap.size w)
  have h3 : (s.size : Int) < 3 := by omega
  clear hs
  unfold PairEnd
  go_enter Tryz.func186, Tryz.ntmps186
  go_wp2
  go_ret2
  exact ⟨rfl, HB.out⟩

set_option maxHeartbeats 4000000 in
theorem code_call (a b : UInt8) (s : ByteArray) (w : World) (hs : 3 ≤ s.size) (he1 : s.extract 1 3 = ⟨#[a, b]⟩) (he2 : s.extract 0 3 = ⟨#[37, a, b]⟩) (he : Par.Errs w) :
    Calls Tryz.prog 186 #[.string s] w (PairEnd (codep a b) w) := by
  have HP := Lib.hid (pu_call a b w he)
  have h3 : 3 ≤ (s.size : Int) := by omega
  unfold PuOut at HP
  unfold PairEnd
  clear hs he
  by_cases hx : hexn a < 16 ∧ hexn b < 16
  case neg =>
    have hc : codep a b = ([], false) := if_neg hx
    rw [hc]
    simp only [if_neg hx] at HP
    clear hx hc
    go_enter Tryz.func186, Tryz.ntmps186
    go_wp2_with (fail)
    go_at_call 214
    refine HP.out.mono ?_
    rintro e w1 ⟨⟨t, v, rfl⟩, hb1⟩
    have HB := Lib.hid hb1
    clear hb1
    go_wp2
    go_ret2
    exact ⟨rfl, HB.out⟩
  have hc : codep a b = (code (hexn a) (hexn b), true) := if_pos hx
  rw [hc]
  simp only [if_pos hx] at HP
  obtain ⟨hx1, hx2⟩ := hx
  have HUP := Lib.hid (up_three hx1 hx2)
  have HA1 := Lib.hid (up_one hx1).2
  have HA2 := Lib.hid (up_one hx2).2
  generalize hexn a = x at *
  generalize hexn b = y at *
  have hbn : ((bt x y).toNat : Int) = ((16 * x + y : Nat) : Int) := by rw [bt_nat hx1 hx2]
  have HPB := Lib.hid (fun W => plain_byte (bt x y) W)
  have HCV : Hid (∀ W : World, (convert 149 9 (.slice (some ⟨W.heap.size, 0, none⟩) 1 1)).run Tryz.prog (W.alloc (.cells #[.int .u8 ((16 * x + y : Nat) : Int)] 5)) = .ok (.string ⟨#[bt x y]⟩) (W.alloc (.cells #[.int .u8 ((16 * x + y : Nat) : Int)] 5))) := Lib.hid (fun W => by
    have h := own_str (own_lit_one W (bt x y))
    unfold bvl at h
    rw [hbn] at h
    exact h)
  rw [hbn] at HPB
  have HY : Hid (plainb (bt x y) = true → code x y = [bt x y]) := Lib.hid code_yes
  have HN : Hid (plainb (bt x y) = false → code x y = [37, dig x, dig y]) := Lib.hid code_no
  have n1 : ((16 * x + y : Nat) : Int) ≤ 255 := by omega
  have n0 : 0 ≤ ((16 * x + y : Nat) : Int) := by omega
  generalize ((16 * x + y : Nat) : Int) = n at *
  generalize code x y = z at HY HN ⊢
  generalize bt x y = c at *
  clear hbn hx1 hx2 hc
  cases hp : plainb c with
  | true =>
    have HZ := Lib.hid (HY.out hp)
    rw [hp] at HPB
    clear HY HN hp HA1 HA2 HUP
    go_enter Tryz.func186, Tryz.ntmps186
    go_wp2_with (fail)
    go_at_call 214
    refine HP.out.mono ?_
    rintro e w1 ⟨rfl, hb1⟩
    have HB := Lib.hid hb1
    have hcv := HCV.out w1
    clear hb1
    go_wp2_with (fail)
    go_at_call 215
    refine (HPB.out _).mono ?_
    rintro e w' ⟨rfl, rfl⟩
    go_wp2
    go_ret2
    exact ⟨by rw [HZ.out] <;> rfl, HB.out.alloc HB.out.size _⟩
  | false =>
    have HZ := Lib.hid (HN.out hp)
    rw [hp] at HPB
    clear HY HN hp HCV
    go_enter Tryz.func186, Tryz.ntmps186
    go_wp2_with (fail)
    go_at_call 214
    refine HP.out.mono ?_
    rintro e w1 ⟨rfl, hb1⟩
    have HB := Lib.hid hb1
    have HU := Lib.hid (Tryz.strings_ToUpper_ascii ⟨#[37, a, b]⟩ w1 (by show 3 ≤ _; decide) (fun j u h => by
      match j, h with
      | 0, h => simp at h; subst h; decide
      | 1, h => simp at h; subst h; exact HA1.out
      | 2, h => simp at h; subst h; exact HA2.out))
    rw [show (⟨#[37, a, b]⟩ : ByteArray).data.toList = [37, a, b] from rfl, HUP.out] at HU
    clear hb1 HA1 HA2 HUP
    go_wp2_with (fail)
    go_at_call 215
    refine (HPB.out _).mono ?_
    rintro e w' ⟨rfl, rfl⟩
    go_wp2_with (fail)
    go_at_call 189
    refine HU.out.mono ?_
    rintro e w2 ⟨rfl, hb2⟩
    have HB2 := Lib.hid (Base.then_below HB.out hb2)
    clear hb2
    go_wp2
    go_ret2
    exact ⟨by rw [HZ.out] <;> rfl, HB2.out⟩
end Go.Proofs.YtojmkdggkaocdaaGreatDoor.Nt
