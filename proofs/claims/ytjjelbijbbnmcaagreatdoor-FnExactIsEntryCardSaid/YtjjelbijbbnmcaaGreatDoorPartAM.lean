/-
  CONTRACTS AND PLAIN FACTS, several texts in one; each says in its own words what it proves.
-/
import Derived.Test.YtjjelbijbbnmcaaGreatDoorPartAH
import Derived.Test.YtjjelbijbbnmcaaGreatDoorPartA
import Derived.LoopTactic
import Derived.Outline
import Derived.Deep.SlicePairs

/-
  CONTRACT of the program's IsEntry; nothing that was there before is changed.
-/
namespace Go.Proofs.YtjjelbijbbnmcaaGreatDoor.Ent
open Go Go.RowKit
set_option linter.unusedVariables false
set_option maxRecDepth 1000000

set_option maxHeartbeats 16000000 in
theorem impl_ent (k : List UInt8) (s : Value) (ls : List Flds.Fld) (c : Int) (u : Value) (l : List Flds.Fld) (b : List UInt8) (p : Value) (ps : List Pcs.T) (n i g q : Int) (B : Nat) (w : World) (hs : Flds.Holds w B s ls) (hu : Flds.Holds w B u l) (hp : Pcs.Holds w B p ps) (hB : B ≤ w.heap.size) (hls : Flds.total ls ≤ 1048576) (hl : Flds.total l ≤ 1048576) (hbl : b.length ≤ 1048576) (hps : Pcs.total ps ≤ 1048576) (hkl : k.length ≤ 1048576) (ht : Age.Tabs w) :
    Calls Tryz.prog 7 #[.agg #[.string ⟨k.toArray⟩, s, .int .i64 c, u, .string ⟨b.toArray⟩, p, .int .i64 n, .int .i64 i, .int .i64 g, .int .i64 q]] w (BoolEnd (entOk k ls c l b ps n i g q) w) := by
  have hb0 : Below w.heap.size w (w.alloc (.cells #[.string ⟨k.toArray⟩, s, .int .i64 c, u, .string ⟨b.toArray⟩, p, .int .i64 n, .int .i64 i, .int .i64 g, .int .i64 q] 35)) := (Below.refl _ _).alloc (Nat.le_refl _) _
  have hbx := Kept.Box.new (w := w) (T := 35) (a := #[.string ⟨k.toArray⟩, s, .int .i64 c, u, .string ⟨b.toArray⟩, p, .int .i64 n, .int .i64 i, .int .i64 g, .int .i64 q])
  have HS0 : Hid (EntT w [.string ⟨k.toArray⟩, s, .int .i64 c, u, .string ⟨b.toArray⟩, p, .int .i64 n, .int .i64 i, .int .i64 g, .int .i64 q] (w.alloc (.cells #[.string ⟨k.toArray⟩, s, .int .i64 c, u, .string ⟨b.toArray⟩, p, .int .i64 n, .int .i64 i, .int .i64 g, .int .i64 q] 35))) := Lib.hid ⟨hbx, Lib.hid hb0⟩
  have SK : Hid (∀ w0 w1 : World, EntT w [.string ⟨k.toArray⟩, s, .int .i64 c, u, .string ⟨b.toArray⟩, p, .int .i64 n, .int .i64 i, .int .i64 g, .int .i64 q] w0 → Below w0.heap.size w0 w1 → EntT w [.string ⟨k.toArray⟩, s, .int .i64 c, u, .string ⟨b.toArray⟩, p, .int .i64 n, .int .i64 i, .int .i64 g, .int .i64 q] w1) := Lib.hid (fun _ _ h hb => entt_call h hb)
  have HH : Hid (∀ x, EntT w [.string ⟨k.toArray⟩, s, .int .i64 c, u, .string ⟨b.toArray⟩, p, .int .i64 n, .int .i64 i, .int .i64 g, .int .i64 q] x → Calls Tryz.prog 24 #[.agg #[.int .i64 c, u, .string ⟨b.toArray⟩]] x (BoolEnd (headOk c l b) x)) := Lib.hid (fun x hx => impl_head c u B l b x (Flds.holds_below hu (hx.2.out.mono hB)) (Nat.le_trans hB hx.2.out.size) hl hbl (Age.tabs_below ht hx.2.out))
  have HA : Hid (∀ x, EntT w [.string ⟨k.toArray⟩, s, .int .i64 c, u, .string ⟨b.toArray⟩, p, .int .i64 n, .int .i64 i, .int .i64 g, .int .i64 q] x → Calls Tryz.prog 25 #[s] x (BoolEnd (Flds.fldsOk ls) x)) := Lib.hid (fun x hx => Flds.impl_are s B ls x (Flds.holds_below hs (hx.2.out.mono hB)) (Nat.le_trans hB hx.2.out.size) hls)
  have HP : Hid (∀ x, EntT w [.string ⟨k.toArray⟩, s, .int .i64 c, u, .string ⟨b.toArray⟩, p, .int .i64 n, .int .i64 i, .int .i64 g, .int .i64 q] x → Calls Tryz.prog 26 #[p, .int .i64 n] x (BoolEnd (Pcs.arep ps n) x)) := Lib.hid (fun x hx => Pcs.impl_are p B ps n x (Pcs.holds_below hp (hx.2.out.mono hB)) (Nat.le_trans hB hx.2.out.size) hps)
  have HW : Hid (∀ x, EntT w [.string ⟨k.toArray⟩, s, .int .i64 c, u, .string ⟨b.toArray⟩, p, .int .i64 n, .int .i64 i, .int .i64 g, .int .i64 q] x → Calls Tryz.prog 27 #[p, .int .i64 n] x (BoolEnd (Pcs.whole ps n) x)) := Lib.hid (fun x hx => Pcs.impl_whole p B ps n x (Pcs.holds_below hp (hx.2.out.mono hB)) (Nat.le_trans hB hx.2.out.size) hps)
  have HE : Hid (entOk k ls c l b ps n i g q = (headOk c l b && (Flds.fldsOk ls && (decide (k.length ≤ 160) && (Pcs.arep ps n && ((decide (c = 200) || Pcs.whole ps n) && (decide (0 ≤ i ∧ i ≤ 2147483648) && (decide (0 ≤ g ∧ g ≤ 4102444799) && decide (0 ≤ q ∧ q ≤ 1000000000000))))))))) := Lib.hid rfl
  unfold BoolEnd at HH HA HP HW ⊢
  generalize entOk k ls c l b ps n i g q = z at HE ⊢
  generalize headOk c l b = hb at HH HE
  generalize Flds.fldsOk ls = fb at HA HE
  generalize Pcs.arep ps n = ab at HP HE
  generalize Pcs.whole ps n = wb at HW HE
  have hkz : (⟨k.toArray⟩ : ByteArray).size = k.length := by simp [ByteArray.size]
  clear hbx hb0 hs hu hp hls hl hbl hps ht
  go_enter Tryz.func7, Tryz.ntmps7
  go_wp2_with (fail)
  go_at_call 24
  refine (HH.out _ HS0.out).mono ?_
  rintro e w1 ⟨rfl, hb1⟩
  have HS1 := Lib.hid (SK.out _ _ HS0.out hb1)
  clear hb1
  cases hb with
  | false =>
    have HF : Hid (z = false) := Lib.hid (by rw [HE.out]; simp [*])
    clear HE
    go_wp2
    go_ret
    exact ⟨ret_b HF.out.symm, HS1.out.2.out⟩
  | true =>
  have x1 := HS1.out.1.cell 1 _ rfl
  go_wp2_with (fail)
  go_at_call 25
  refine (HA.out _ HS1.out).mono ?_
  rintro e w2 ⟨rfl, hb2⟩
  have HS2 := Lib.hid (SK.out _ _ HS1.out hb2)
  clear hb2 x1
  cases fb with
  | false =>
    have HF : Hid (z = false) := Lib.hid (by rw [HE.out]; simp [*])
    clear HE
    go_wp2
    go_ret
    exact ⟨ret_b HF.out.symm, HS2.out.2.out⟩
  | true =>
  have x0 := HS2.out.1.cell 0 _ rfl
  by_cases hk : (k.length : Int) ≤ 160
  case neg =>
    have hk' : ¬ k.length ≤ 160 := by omega
    have HF : Hid (z = false) := Lib.hid (by rw [HE.out]; simp [*])
    clear HE
    go_wp2
    go_ret
    exact ⟨ret_b HF.out.symm, HS2.out.2.out⟩
  have hk' : k.length ≤ 160 := by omega
  have x5 := HS2.out.1.cell 5 _ rfl
  have x6 := HS2.out.1.cell 6 _ rfl
  go_wp2_with (fail)
  go_at_call 26
  refine (HP.out _ HS2.out).mono ?_
  rintro e w3 ⟨rfl, hb3⟩
  have HS3 := Lib.hid (SK.out _ _ HS2.out hb3)
  clear hb3 x0 x5 x6
  cases ab with
  | false =>
    have HF : Hid (z = false) := Lib.hid (by rw [HE.out]; simp [*])
    clear HE
    go_wp2
    go_ret
    exact ⟨ret_b HF.out.symm, HS3.out.2.out⟩
  | true =>
  have x2 := HS3.out.1.cell 2 _ rfl
  by_cases hc : c = 200
  · subst hc
    have hcd := (show ((200 : Int) == 200) = true from rfl)
    have x7 := HS3.out.1.cell 7 _ rfl
    go_wp2_with (fail)
    go_at_call 28
    refine (within_be _ _ _).mono ?_
    rintro e w4 ⟨rfl, hb4⟩
    have HS4 := Lib.hid (SK.out _ _ HS3.out hb4)
    clear hb4 x7 x2
    by_cases hi : 0 ≤ i ∧ i ≤ 2147483648
    case neg =>
      have hd := decide_eq_false hi
      clear hi
      rw [hd]
      have HF : Hid (z = false) := Lib.hid (by rw [HE.out]; simp [*])
      clear HE
      go_wp2
      go_ret
      exact ⟨ret_b HF.out.symm, HS4.out.2.out⟩
    have hdi := decide_eq_true hi
    clear hi
    rw [hdi]
    have x8 := HS4.out.1.cell 8 _ rfl
    go_wp2_with (fail)
    go_at_call 28
    refine (within_be _ _ _).mono ?_
    rintro e w5 ⟨rfl, hb5⟩
    have HS5 := Lib.hid (SK.out _ _ HS4.out hb5)
    clear hb5 x8
    by_cases hg : 0 ≤ g ∧ g ≤ 4102444799
    case neg =>
      have hd := decide_eq_false hg
      clear hg
      rw [hd]
      have HF : Hid (z = false) := Lib.hid (by rw [HE.out]; simp [*])
      clear HE
      go_wp2
      go_ret
      exact ⟨ret_b HF.out.symm, HS5.out.2.out⟩
    have hdg := decide_eq_true hg
    clear hg
    rw [hdg]
    have x9 := HS5.out.1.cell 9 _ rfl
    go_wp2_with (fail)
    go_at_call 28
    refine (within_be _ _ _).mono ?_
    rintro e w6 ⟨rfl, hb6⟩
    have HS6 := Lib.hid (SK.out _ _ HS5.out hb6)
    clear hb6 x9
    have HF : Hid (z = decide (0 ≤ q ∧ q ≤ 1000000000000)) := Lib.hid (by rw [HE.out]; simp [*])
    clear HE
    go_wp2
    go_ret
    exact ⟨ret_b (by rw [HF.out]; simp), HS6.out.2.out⟩
  have hcd : (c == 200) = false := by simpa using hc
  have x5 := HS3.out.1.cell 5 _ rfl
  have x6 := HS3.out.1.cell 6 _ rfl
  go_wp2_with (fail)
  go_at_call 27
  refine (HW.out _ HS3.out).mono ?_
  rintro e w4 ⟨rfl, hb4⟩
  have HS4 := Lib.hid (SK.out _ _ HS3.out hb4)
  clear hb4 x5 x6 x2
  cases wb with
  | false =>
    have HF : Hid (z = false) := Lib.hid (by rw [HE.out]; simp [*])
    clear HE
    go_wp2
    go_ret
    exact ⟨ret_b HF.out.symm, HS4.out.2.out⟩
  | true =>
  have x7 := HS4.out.1.cell 7 _ rfl
  go_wp2_with (fail)
  go_at_call 28
  refine (within_be _ _ _).mono ?_
  rintro e w5 ⟨rfl, hb5⟩
  have HS5 := Lib.hid (SK.out _ _ HS4.out hb5)
  clear hb5 x7
  by_cases hi : 0 ≤ i ∧ i ≤ 2147483648
  case neg =>
    have hd := decide_eq_false hi
    clear hi
    rw [hd]
    have HF : Hid (z = false) := Lib.hid (by rw [HE.out]; simp [*])
    clear HE
    go_wp2
    go_ret
    exact ⟨ret_b HF.out.symm, HS5.out.2.out⟩
  have hdi := decide_eq_true hi
  clear hi
  rw [hdi]
  have x8 := HS5.out.1.cell 8 _ rfl
  go_wp2_with (fail)
  go_at_call 28
  refine (within_be _ _ _).mono ?_
  rintro e w6 ⟨rfl, hb6⟩
  have HS6 := Lib.hid (SK.out _ _ HS5.out hb6)
  clear hb6 x8
  by_cases hg : 0 ≤ g ∧ g ≤ 4102444799
  case neg =>
    have hd := decide_eq_false hg
    clear hg
    rw [hd]
    have HF : Hid (z = false) := Lib.hid (by rw [HE.out]; simp [*])
    clear HE
    go_wp2
    go_ret
    exact ⟨ret_b HF.out.symm, HS6.out.2.out⟩
  have hdg := decide_eq_true hg
  clear hg
  rw [hdg]
  have x9 := HS6.out.1.cell 9 _ rfl
  go_wp2_with (fail)
  go_at_call 28
  refine (within_be _ _ _).mono ?_
  rintro e w7 ⟨rfl, hb7⟩
  have HS7 := Lib.hid (SK.out _ _ HS6.out hb7)
  clear hb7 x9
  have HF : Hid (z = decide (0 ≤ q ∧ q ≤ 1000000000000)) := Lib.hid (by rw [HE.out]; simp [*])
  clear HE
  go_wp2
  go_ret
  exact ⟨ret_b (by rw [HF.out]; simp), HS7.out.2.out⟩
end Go.Proofs.YtjjelbijbbnmcaaGreatDoor.Ent

/-
  CONTRACTS of the laws' helpers for slices of fields: an argument of that type, opened; its size (szFieldS). Nothing that was there before is changed.
-/
namespace Go.Proofs.YtjjelbijbbnmcaaGreatDoor.Flds
open Go Go.RowKit
set_option linter.unusedVariables false
set_option maxRecDepth 1000000

theorem trod_text {H : Type} {enc : TypeId × Value → H} {W : World} {n : Nat} {sp : Nat → Bool} {v : Value} {x : DataW H × List MemPlace} (h : DataW.trod enc Tryz.prog W 0 sp true n 9 [v] = some x) : ∃ s : ByteArray, v = .string s ∧ s.size ≤ maxLen := by
  obtain ⟨s, h1, h2, h3⟩ := DataW.trod_string Tryz.underlying9 h
  exact ⟨s, by simpa using h1, h3⟩

set_option maxRecDepth 1000000 in
/-- An argument of type []laws.Field, opened. -/
theorem open_arg {H : Type} {enc : TypeId × Value → H} {W : World} {base : Nat} {v : Value} {d : DataW H} {p : List MemPlace}
    (hok : Value.okWide Tryz.prog W .any base 22 v) (h : DataW.Trod enc Tryz.prog W 0 (fun _ => true) true 22 v d p) :
    ∃ l : List Fld, Holds W W.heap.size v l ∧ l.length ≤ maxLen ∧ (∀ f ∈ l, f.1.length ≤ maxLen ∧ f.2.length ≤ maxLen) := by
  obtain ⟨a0, len, cap, rfl⟩ := WideShapes.okWide_slice Tryz.underlying22 hok
  obtain ⟨fuel, hf⟩ := h
  have c1 : Tryz.prog.cellsOf 9 = 1 := by kernel_rfl
  have c2 : Tryz.prog.cellsOf 59 = 2 := by kernel_rfl
  rcases Deep.open_slice_pairs Tryz.underlying22 Tryz.underlying59 c2 rfl rfl c1 c1 hf with ⟨hcs, hx⟩ | ⟨a, len', cap', m, n, V0, V1, D0, D1, P0, P1, hcs, _, hl, hm, hmm, hx, hall⟩
  · simp [Value.cells] at hcs
    obtain ⟨rfl, rfl, rfl⟩ := hcs
    exact ⟨[], Or.inl ⟨rfl, _, _, rfl⟩, Nat.zero_le _, fun f hf => by cases hf⟩
  · simp [Value.cells] at hcs
    obtain ⟨rfl, rfl, rfl⟩ := hcs
    simp only [if_true] at hmm
    subst hmm
    have each : ∀ i, i < m → ∃ f : Fld, W.cell? (a.add (i * 2)) = some (sv f.1) ∧ W.cell? (a.add (i * 2 + 1)) = some (sv f.2) ∧ f.1.length ≤ maxLen ∧ f.2.length ≤ maxLen := fun i hi => by
      obtain ⟨h0, h1, h2, h3⟩ := hall i hi
      obtain ⟨s, hs, hsz⟩ := trod_text h2
      obtain ⟨u, hu, huz⟩ := trod_text h3
      refine ⟨(s.data.toList, u.data.toList), by rw [h0, hs]; rfl, by rw [h1, hu]; rfl, ?_, ?_⟩
      · show s.data.toList.length ≤ maxLen; rw [Array.length_toList]; exact hsz
      · show u.data.toList.length ≤ maxLen; rw [Array.length_toList]; exact huz
    obtain ⟨F, hF⟩ := Deep.choose_lt each
    have hln : ((List.range len).map F).length = len := by simp
    have hget : ∀ j, j < len → ((List.range len).map F).getD j nofld = F j := fun j hj => by simp [List.getD, hj]
    refine ⟨(List.range len).map F, ?_, by rw [hln]; omega, ?_⟩
    · by_cases hl0 : len = 0
      · subst hl0; exact Or.inl ⟨by simp, _, _, rfl⟩
      · obtain ⟨b, off, spot⟩ := a
        have hspot : spot = none := by simpa [Addr.add] using World.cell?_spot (hF 0 (by omega)).1
        subst hspot
        have hc : At W b off ((List.range len).map F) := fun j hj => by
          rw [hln] at hj
          rw [hget j hj, ← WideShapes.add_plain, Nat.add_assoc, ← WideShapes.add_plain]
          exact ⟨(hF j (by omega)).1, (hF j (by omega)).2.1⟩
        exact Or.inr ⟨by omega, b, off, _, by rw [hln], at_lt hc (by omega), by omega, hc⟩
    · intro f hf
      obtain ⟨i, hi, rfl⟩ := List.mem_map.1 hf
      have hi' := List.mem_range.1 hi
      exact (hF i (by omega)).2.2

/-- One field's size. -/
theorem size_one (f : Fld) (left : Int) (w : World) (h1 : f.1.length ≤ maxLen) (h2 : f.2.length ≤ maxLen) (h0 : 0 ≤ left) (h3 : left ≤ 1048576) :
    Calls Tryz.prog 32 #[fv f, .int .i64 left] w fun e w' => ∃ z : Int, e = .returned (.int .i64 z) ∧ (z < 0 ∨ (0 ≤ z ∧ z + (f.1.length + f.2.length : Int) = left)) ∧ Below w.heap.size w w' := by
  obtain ⟨x, y⟩ := f
  unfold maxLen at h1 h2
  simp only at h1 h2 ⊢
  have hsx : (⟨x.toArray⟩ : ByteArray).size = x.length := by simp [ByteArray.size]
  have hsy : (⟨y.toArray⟩ : ByteArray).size = y.length := by simp [ByteArray.size]
  unfold fv sv
  have HB := Lib.hid ((Below.refl w.heap.size w).alloc (Nat.le_refl _) (.cells #[.string ⟨x.toArray⟩, .string ⟨y.toArray⟩] 59))
  by_cases hn1 : left - (x.length : Int) < 0
  · go_enter Tryz.func32, Tryz.ntmps32
    go_wp2
    go_ret
    exact ⟨_, rfl, Or.inl (by omega), HB.out⟩
  · by_cases hn2 : left - (x.length : Int) - (y.length : Int) < 0
    · go_enter Tryz.func32, Tryz.ntmps32
      go_wp2
      go_ret
      exact ⟨_, rfl, Or.inl (by omega), HB.out⟩
    · go_enter Tryz.func32, Tryz.ntmps32
      go_wp2
      go_ret
      exact ⟨_, rfl, Or.inr ⟨by omega, by omega⟩, HB.out⟩

/-- What szFieldS answers: not below 0 just where the size is at most what is left. -/
def Sized (l : List Fld) (left : Int) (w : World) (e : Ending) (w' : World) : Prop := ∃ z : Int, e = .returned (.int .i64 z) ∧ (z < 0 ∨ (0 ≤ z ∧ z + total l = left)) ∧ Below w.heap.size w w'

theorem size_nil (a : Option Addr) (cap : Nat) (left : Int) (w : World) (h0 : 0 ≤ left) (h3 : left ≤ 1048576) :
    Calls Tryz.prog 9 #[.slice a 0 cap, .int .i64 left] w (Sized [] left w) := by
  go_enter Tryz.func9, Tryz.ntmps9
  go_wp2
  go_loop [1, 5] (fun l i => i = .int .i64 0 ∧ l = .int .i64 left) (fun _ i => 0)
  case atStart => exact ⟨rfl, by simp⟩
  case round =>
    obtain ⟨rfl, rfl⟩ := hrel
    go_wp2
    go_ret
    exact ⟨_, rfl, Or.inr ⟨by omega, by simp [total_nil]⟩, Below.refl _ _⟩

set_option maxHeartbeats 1000000 in
theorem size_some (b off cap : Nat) (l : List Fld) (left : Int) (w : World) (hc : At w b off l) (h0 : 0 < l.length) (hl : l.length ≤ maxLen) (hx : ∀ f ∈ l, f.1.length ≤ maxLen ∧ f.2.length ≤ maxLen) (hl0 : 0 ≤ left) (hl3 : left ≤ 1048576) :
    Calls Tryz.prog 9 #[.slice (some ⟨b, off, none⟩) l.length cap, .int .i64 left] w (Sized l left w) := by
  have hbl := at_lt hc h0
  have HC := Lib.hid hc
  have HX := Lib.hid hx
  unfold maxLen at hl
  clear hc hx
  by_cases hn : left - (l.length : Int) < 0
  · go_enter Tryz.func9, Tryz.ntmps9
    go_wp2
    go_ret
    exact ⟨_, rfl, Or.inl (by omega), Below.refl _ _⟩
  · go_enter Tryz.func9, Tryz.ntmps9
    go_wp2
    go_loopw [1, 5] (fun q i wr => ∃ k : Nat, k ≤ l.length ∧ i = .int .i64 (k : Int) ∧ 0 ≤ left - (l.length : Int) - (pre l k : Int) ∧ q = .int .i64 (left - (l.length : Int) - (pre l k : Int)) ∧ Below w.heap.size w wr) (fun _ i _ => l.length - (intOf i).toNat)
    case atStart => exact ⟨0, Nat.zero_le _, rfl, by rw [pre_zero]; omega, by rw [pre_zero]; simp, Below.refl _ _⟩
    case round =>
      obtain ⟨k, hk, rfl, hp, rfl, hb⟩ := hrel
      by_cases hlt : k < l.length
      · obtain ⟨c1, c2⟩ := at_below HC.out hb hbl k hlt
        have hm : l.getD k nofld ∈ l := by
          rw [show l.getD k nofld = l[k] by simp [List.getD, hlt]]; exact List.getElem_mem _
        have HX1 := Lib.hid (HX.out _ hm)
        have HP := Lib.hid (pre_more hlt)
        clear hm
        generalize hy : l.getD k nofld = f at c1 c2 HP HX1
        clear hy
        generalize hr : left - (l.length : Int) - (pre l k : Int) = r at hp ⊢
        have hr' := Lib.hid hr
        clear hr
        have HR : Hid (r ≤ 1048576) := Lib.hid (by have := hr'.out; omega)
        have HB := Lib.hid hb
        clear hb
        obtain ⟨x, y⟩ := f
        unfold sv at c1 c2
        go_wp2_with (go_at_call 32; refine (size_one (x, y) r wr HX1.out.1 HX1.out.2 hp HR.out).mono ?_; rintro e w' ⟨z, rfl, hz, hb1⟩; have HB1 := Lib.hid (Base.then_below HB.out (hb1.mono (Nat.le_refl _))); clear hb1)
        · go_ret
          exact ⟨_, rfl, Or.inl (by decide), HB1.out⟩
        · have hr2 := hr'.out
          have hz' : z + ((x.length : Int) + (y.length : Int)) = r := by omega
          go_roundw
          case rel => exact ⟨k + 1, by omega, by go_num, by rw [HP.out]; omega, by rw [HP.out]; congr 1; omega, HB1.out⟩
          case measure => simp [intOf]; omega
      · have HT := Lib.hid (pre_all (l := l) (k := k) (by omega))
        go_wp2
        go_ret
        exact ⟨_, rfl, Or.inr ⟨hp, by rw [HT.out]; omega⟩, hb⟩

theorem size_any (v : Value) (B : Nat) (l : List Fld) (left : Int) (w : World) (h : Holds w B v l) (hl : l.length ≤ maxLen) (hx : ∀ f ∈ l, f.1.length ≤ maxLen ∧ f.2.length ≤ maxLen) (h0 : 0 ≤ left) (h3 : left ≤ 1048576) :
    Calls Tryz.prog 9 #[v, .int .i64 left] w (Sized l left w) := by
  rcases h with ⟨rfl, a, cap, rfl⟩ | ⟨hp, b, off, cap, rfl, _, _, hc⟩
  · exact size_nil a cap left w h0 h3
  · exact size_some b off cap l left w hc hp hl hx h0 h3
end Go.Proofs.YtjjelbijbbnmcaaGreatDoor.Flds

/-
  A SLICE OF FIELDS that stands in one cell of a struct (as in a request or a response), opened.
-/
namespace Go.Proofs.YtjjelbijbbnmcaaGreatDoor.Flds
open Go Go.RowKit
set_option linter.unusedVariables false
set_option maxRecDepth 1000000

set_option maxRecDepth 1000000 in
/-- A slice of fields that stands in one cell, opened. -/
theorem open_cells {H : Type} {enc : TypeId × Value → H} {W : World} {fuel : Nat} {cs : List Value} {x : DataW H × List MemPlace}
    (hf : DataW.trod enc Tryz.prog W 0 (fun _ => true) true fuel 22 cs = some x) :
    ∃ (v : Value) (l : List Fld), cs = [v] ∧ Holds W W.heap.size v l ∧ l.length ≤ maxLen ∧ (∀ f ∈ l, f.1.length ≤ maxLen ∧ f.2.length ≤ maxLen) := by
  have c1 : Tryz.prog.cellsOf 9 = 1 := by kernel_rfl
  have c2 : Tryz.prog.cellsOf 59 = 2 := by kernel_rfl
  rcases Deep.open_slice_pairs Tryz.underlying22 Tryz.underlying59 c2 rfl rfl c1 c1 hf with ⟨hcs, hx⟩ | ⟨a, len', cap', m, n, V0, V1, D0, D1, P0, P1, hcs, _, hl, hm, hmm, hx, hall⟩
  · exact ⟨_, [], hcs, Or.inl ⟨rfl, _, _, rfl⟩, Nat.zero_le _, fun f hf => by cases hf⟩
  · simp only [if_true] at hmm
    subst hmm
    have each : ∀ i, i < m → ∃ f : Fld, W.cell? (a.add (i * 2)) = some (sv f.1) ∧ W.cell? (a.add (i * 2 + 1)) = some (sv f.2) ∧ f.1.length ≤ maxLen ∧ f.2.length ≤ maxLen := fun i hi => by
      obtain ⟨h0, h1, h2, h3⟩ := hall i hi
      obtain ⟨s, hs, hsz⟩ := trod_text h2
      obtain ⟨u, hu, huz⟩ := trod_text h3
      refine ⟨(s.data.toList, u.data.toList), by rw [h0, hs]; rfl, by rw [h1, hu]; rfl, ?_, ?_⟩
      · show s.data.toList.length ≤ maxLen; rw [Array.length_toList]; exact hsz
      · show u.data.toList.length ≤ maxLen; rw [Array.length_toList]; exact huz
    obtain ⟨F, hF⟩ := Deep.choose_lt each
    have hln : ((List.range len').map F).length = len' := by simp
    have hget : ∀ j, j < len' → ((List.range len').map F).getD j nofld = F j := fun j hj => by simp [List.getD, hj]
    refine ⟨_, (List.range len').map F, hcs, ?_, by rw [hln]; omega, ?_⟩
    · by_cases hl0 : len' = 0
      · subst hl0; exact Or.inl ⟨by simp, _, _, rfl⟩
      · obtain ⟨b, off, spot⟩ := a
        have hspot : spot = none := by simpa [Addr.add] using World.cell?_spot (hF 0 (by omega)).1
        subst hspot
        have hc : At W b off ((List.range len').map F) := fun j hj => by
          rw [hln] at hj
          rw [hget j hj, ← WideShapes.add_plain, Nat.add_assoc, ← WideShapes.add_plain]
          exact ⟨(hF j (by omega)).1, (hF j (by omega)).2.1⟩
        exact Or.inr ⟨by omega, b, off, _, by rw [hln], at_lt hc (by omega), by omega, hc⟩
    · intro f hf
      obtain ⟨i, hi, rfl⟩ := List.mem_map.1 hf
      have hi' := List.mem_range.1 hi
      exact (hF i (by omega)).2.2

end Go.Proofs.YtjjelbijbbnmcaaGreatDoor.Flds
