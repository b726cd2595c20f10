/-
  CONTRACTS of MergeFields, the model's and the program's: in new memory, the fields whose name the newer ones do not have, followed by the newer ones; nothing that was there before is changed.
-/
import Derived.Test.YtdnnnkilbflhlaaFldGet
namespace Go.Proofs.Ytdnnnkilbflhlaa.Flds
open Go Go.RowKit
set_option linter.unusedVariables false

def has (nw : List Fld) (n : List UInt8) : Bool := nw.any (fun f => f.1 == n)
theorem has_vals (nw : List Fld) (n : List UInt8) : decide (0 < (vals n nw).length) = has nw n := by
  unfold vals has
  rw [List.length_map]
  induction nw with
  | nil => rfl
  | cons a r ih =>
    by_cases h : (a.1 == n) = true
    · rw [List.filter_cons_of_pos (by exact h), List.any_cons, h]; simp
    · rw [List.filter_cons_of_neg (by exact h), List.any_cons, ih]; simp [h]
def keepm (nw l : List Fld) : List Fld := l.filter (fun f => !has nw f.1)
def merged (l nw : List Fld) : List Fld := keepm nw l ++ nw
theorem keepm_le (nw l : List Fld) : (keepm nw l).length ≤ l.length := List.length_filter_le _ _
theorem keepm_more {nw l : List Fld} {k : Nat} (h : k < l.length) : keepm nw (l.take (k + 1)) = if has nw (l.getD k nofld).1 = true then keepm nw (l.take k) else keepm nw (l.take k) ++ [l.getD k nofld] := by
  unfold keepm
  rw [filt_more h]
  by_cases e : has nw (l.getD k nofld).1 = true
  · rw [if_pos e, if_neg (by rw [e]; decide)]
  · rw [if_neg e, if_pos (by simpa using e)]

/-! slices.IndexFunc and slices.ContainsFunc at a closure that only reads -/
theorem any_more {p : Fld → Bool} {l : List Fld} {k : Nat} (h : k < l.length) : (l.take (k + 1)).any p = ((l.take k).any p || p (l.getD k nofld)) := by
  rw [List.take_succ_eq_append_getElem h, List.any_append, show l.getD k nofld = l[k] by simp [List.getD, h]]; simp
theorem any_take {p : Fld → Bool} {l : List Fld} {k : Nat} (h : (l.take k).any p = true) : l.any p = true := by
  rw [List.any_eq_true] at h ⊢
  obtain ⟨x, hx, hp⟩ := h
  exact ⟨x, List.mem_of_mem_take hx, hp⟩
def IdxEnd (p : Fld → Bool) (l : List Fld) (w : World) (e : Ending) (w' : World) : Prop := ∃ z : Int, e = .returned (.int .i64 z) ∧ ((0 ≤ z ∧ l.any p = true) ∨ (z < 0 ∧ l.any p = false)) ∧ Below w.heap.size w w'

theorem idx_nil (K : FuncId) (q : Value) (p : Fld → Bool) (a : Option Addr) (cap : Nat) (w : World) :
    Calls Try.prog 46 #[.slice a 0 cap, .func (.func K) #[] #[q]] w (IdxEnd p [] w) := by
  go_enter Try.func46, Try.ntmps46
  go_wp2
  go_loop [8] (fun i => i = .int .i64 0) (fun i => 0)
  case atStart => rfl
  case round =>
    obtain rfl := hrel
    go_wp2
    go_ret
    exact ⟨_, rfl, Or.inr ⟨by decide, rfl⟩, Below.refl _ _⟩

set_option maxHeartbeats 1000000 in
theorem idx_some (K : FuncId) (q : Value) (p : Fld → Bool) (b off cap : Nat) (l : List Fld) (w : World) (hE : Enters K) (hK : Keeps K q p w) (hc : At w b off l) (h0 : 0 < l.length) (hl : l.length ≤ 1048576) :
    Calls Try.prog 46 #[.slice (some ⟨b, off, none⟩) l.length cap, .func (.func K) #[] #[q]] w (IdxEnd p l w) := by
  have hbl := at_lt hc h0
  have HC := Lib.hid hc
  have HK := Lib.hid hK
  have HE := Lib.hid hE
  clear hc hK hE
  go_enter Try.func46, Try.ntmps46
  go_wp2
  go_loopw [8] (fun i wr => ∃ k : Nat, k ≤ l.length ∧ i = .int .i64 (k : Int) ∧ Hid ((l.take k).any p = false) ∧ Below w.heap.size w wr) (fun i _ => l.length - (intOf i).toNat)
  case atStart => exact ⟨0, Nat.zero_le _, rfl, rfl, Below.refl _ _⟩
  case round =>
    obtain ⟨k, hk, rfl, hn, hb⟩ := hrel
    by_cases hlt : k < l.length
    · obtain ⟨c1, c2⟩ := at_below HC.out hb hbl k hlt
      have HM := Lib.hid (any_more (p := p) hlt)
      generalize l.getD k nofld = f at c1 c2 HM
      obtain ⟨x, y⟩ := f
      unfold sv at c1 c2
      have HB := Lib.hid hb
      have HKx := Lib.hid (HK.out x y wr hb)
      clear hb
      by_cases hp : p (x, y) = true
      · have HT : Hid (l.any p = true) := Lib.hid (any_take (k := k + 1) (by rw [HM.out, hp]; simp))
        rw [hp] at HKx
        clear hp HM hn
        go_wp2_with (fail)
        rw [HE.out, Oper.upon_enter]
        refine HKx.out.mono ?_
        rintro e w1 ⟨rfl, hb1⟩
        have HB1 := Lib.hid (Base.then_below HB.out hb1)
        clear hb1
        go_wp2
        go_ret
        exact ⟨_, rfl, Or.inl ⟨by omega, HT.out⟩, HB1.out⟩
      · have hp' : p (x, y) = false := by simpa using hp
        have HT : Hid ((l.take (k + 1)).any p = false) := Lib.hid (by rw [HM.out, hn.out, hp']; rfl)
        rw [hp'] at HKx
        clear hp hp' HM hn
        go_wp2_with (fail)
        rw [HE.out, Oper.upon_enter]
        refine HKx.out.mono ?_
        rintro e w1 ⟨rfl, hb1⟩
        have HB1 := Lib.hid (Base.then_below HB.out hb1)
        clear hb1
        go_wp2
        go_roundw
        case rel => exact ⟨k + 1, by omega, by go_num, HT.out, HB1.out⟩
        case measure => simp [intOf]; omega
    · have HT : Hid (l.any p = false) := Lib.hid (by have h := hn.out; rwa [List.take_of_length_le (by omega)] at h)
      go_wp2
      go_ret
      exact ⟨_, rfl, Or.inr ⟨by decide, HT.out⟩, hb⟩

theorem idx_any (K : FuncId) (q : Value) (p : Fld → Bool) (v : Value) (B : Nat) (l : List Fld) (w : World) (hE : Enters K) (hK : Keeps K q p w) (h : Holds w B v l) (hl : l.length ≤ 1048576) :
    Calls Try.prog 46 #[v, .func (.func K) #[] #[q]] w (IdxEnd p l w) := by
  rcases h with ⟨rfl, a, cap, rfl⟩ | ⟨h0, b, off, cap, rfl, _, _, hc⟩
  · exact idx_nil K q p a cap w
  · exact idx_some K q p b off cap l w hE hK hc h0 hl

theorem contains_any (K : FuncId) (q : Value) (p : Fld → Bool) (v : Value) (B : Nat) (l : List Fld) (w : World) (hE : Enters K) (hK : Keeps K q p w) (h : Holds w B v l) (hl : l.length ≤ 1048576) :
    Calls Try.prog 42 #[v, .func (.func K) #[] #[q]] w fun e w' => e = .returned (.bool (l.any p)) ∧ Below w.heap.size w w' := by
  have HI := Lib.hid (idx_any K q p v B l w hE hK h hl)
  clear h hK hE
  go_enter Try.func42, Try.ntmps42
  go_wp2_with (fail)
  go_at_call 46
  refine HI.out.mono ?_
  rintro e w1 ⟨z, rfl, hz, hb⟩
  rcases hz with ⟨hz, hp⟩ | ⟨hz, hp⟩
  · have HP := Lib.hid hp
    have HB := Lib.hid hb
    clear hb hp
    go_wp2
    go_ret
    exact ⟨congrArg (fun q => Ending.returned (.bool q)) (show true = l.any p from HP.out.symm), HB.out⟩
  · have HP := Lib.hid hp
    have hzn : ¬ 0 ≤ z := by omega
    have HB := Lib.hid hb
    clear hb hp
    go_wp2
    go_ret
    exact ⟨congrArg (fun q => Ending.returned (.bool q)) (show decide (0 ≤ z) = l.any p by rw [HP.out]; simp; omega), HB.out⟩

theorem enters_has : Enters 43 := fun args w => rfl
theorem enters_merge : Enters 37 := fun args w => rfl
theorem has_keeps (g : Nat) (n : List UInt8) (w : World) (hc : w.cell? ⟨g, 0, none⟩ = some (.string ⟨n.toArray⟩)) : Keeps 43 (.pointer (some ⟨g, 0, none⟩)) (fun f => f.1 == n) w := by
  intro x y wx hb
  have hg := lt_of_cell hc
  have hgx : g < wx.heap.size := Nat.lt_of_lt_of_le hg hb.size
  have hcx : wx.cell? ⟨g, 0, none⟩ = some (.string ⟨n.toArray⟩) := (hb.cell (p := ⟨g, 0, none⟩) hg).trans hc
  have HB := Lib.hid ((Below.refl wx.heap.size wx).alloc (Nat.le_refl _) (.cells #[.string ⟨x.toArray⟩, .string ⟨y.toArray⟩] 42))
  clear hb hc hg
  by_cases e : x = n
  · subst e
    go_enter Try.func43, Try.ntmps43
    go_wp2
    go_ret
    exact ⟨by simp, HB.out⟩
  · have hq : (x == n) = false := by simpa using e
    go_enter Try.func43, Try.ntmps43
    go_wp2
    go_ret
    exact ⟨by simp [e], HB.out⟩

theorem impl_has (v : Value) (B : Nat) (nw : List Fld) (n : List UInt8) (w : World) (h : Holds w B v nw) (hB : B ≤ w.heap.size) (hl : nw.length ≤ 1048576) :
    Calls Try.prog 38 #[v, .string ⟨n.toArray⟩] w fun e w' => e = .returned (.bool (has nw n)) ∧ Below w.heap.size w w' := by
  have hmf : ∀ (fn : Fn) (first cap : Array Value) (w : World), (Instr.makeFunc fn first cap).run Try.prog w = .ok (.func fn first cap) w := fun _ _ _ _ => rfl
  have hb2 : Below w.heap.size w (w.alloc (.cells #[.string ⟨n.toArray⟩] 9)) := (Below.refl _ _).alloc (Nat.le_refl _) _
  have hcn : (w.alloc (.cells #[.string ⟨n.toArray⟩] 9)).cell? ⟨w.heap.size, 0, none⟩ = some (.string ⟨n.toArray⟩) := by
    rw [World.cell?_alloc_at _ _ _ _ rfl]; rfl
  have HF := Lib.hid (contains_any 43 (.pointer (some ⟨w.heap.size, 0, none⟩)) (fun f => f.1 == n) v B nw _ enters_has (has_keeps w.heap.size n _ hcn) (holds_below h (hb2.mono hB)) hl)
  have HL := Lib.hid hb2
  clear hb2 hcn h
  unfold has
  go_enter Try.func38, Try.ntmps38
  go_wp2_with (fail)
  go_at_call 42
  refine HF.out.mono ?_
  rintro e w3 ⟨rfl, hb3⟩
  have HR := Lib.hid (HL.out.trans (hb3.mono (by simp)))
  clear hb3
  go_wp2
  go_ret
  exact ⟨rfl, HR.out⟩

theorem merge_keeps (g : Nat) (vn : Value) (nw : List Fld) (w : World) (hc : w.cell? ⟨g, 0, none⟩ = some vn) (h : Holds w w.heap.size vn nw) (hl : nw.length ≤ 1048576) : Keeps 37 (.pointer (some ⟨g, 0, none⟩)) (fun f => !has nw f.1) w := by
  intro x y wx hb
  have hg := lt_of_cell hc
  have hgx : g < wx.heap.size := Nat.lt_of_lt_of_le hg hb.size
  have hcx : wx.cell? ⟨g, 0, none⟩ = some vn := (hb.cell (p := ⟨g, 0, none⟩) hg).trans hc
  have hba : Below wx.heap.size wx (wx.alloc (.cells #[.string ⟨x.toArray⟩, .string ⟨y.toArray⟩] 42)) := (Below.refl wx.heap.size wx).alloc (Nat.le_refl _) _
  have hh := holds_below (holds_below h hb) (hba.mono hb.size)
  have HC := Lib.hid (impl_has vn _ nw x _ hh (Nat.le_trans hb.size (by simp)) hl)
  have HB := Lib.hid hba
  obtain ⟨a, n', cap, rfl⟩ : ∃ a n' cap, vn = .slice a n' cap := by
    rcases h with ⟨_, a, cap, rfl⟩ | ⟨_, b, off, cap, rfl, _⟩
    · exact ⟨_, _, _, rfl⟩
    · exact ⟨_, _, _, rfl⟩
  clear hb hc hg hba hh h
  simp only
  generalize has nw x = t at HC ⊢
  go_enter Try.func37, Try.ntmps37
  go_wp2_with (fail)
  go_at_call 38
  refine HC.out.mono ?_
  rintro e w3 ⟨rfl, hb3⟩
  have HR := Lib.hid (HB.out.trans (hb3.mono (by simp)))
  clear hb3
  go_wp2
  go_ret
  exact ⟨rfl, HR.out⟩

set_option maxHeartbeats 1000000 in
theorem impl_merge (v vn : Value) (B g cp : Nat) (l nw : List Fld) (w : World) (h : Holds w B v l) (hB : B ≤ w.heap.size) (hn : vn = .slice (some ⟨g, 0, none⟩) nw.length cp) (hown : Own w 0 vn nw) (h1 : l.length ≤ 1048576) (h2 : nw.length ≤ 1048576) :
    Calls Try.prog 23 #[v, vn] w (FilterEnd (merged l nw) w) := by
  subst hn
  have hmf : ∀ (fn : Fn) (first cap : Array Value) (w : World), (Instr.makeFunc fn first cap).run Try.prog w = .ok (.func fn first cap) w := fun _ _ _ _ => rfl
  obtain ⟨i0, hi, hz0, hz1, hz2⟩ := info_parts info_fld
  have hb2 : Below w.heap.size w (w.alloc (.cells #[.slice (some ⟨g, 0, none⟩) nw.length cp] 26)) := (Below.refl _ _).alloc (Nat.le_refl _) _
  have hcn : (w.alloc (.cells #[.slice (some ⟨g, 0, none⟩) nw.length cp] 26)).cell? ⟨w.heap.size, 0, none⟩ = some (.slice (some ⟨g, 0, none⟩) nw.length cp) := by
    rw [World.cell?_alloc_at _ _ _ _ rfl]; rfl
  have ho2 := row_below hown hb2
  have HF := Lib.hid (filter_any 37 (.pointer (some ⟨w.heap.size, 0, none⟩)) (fun f => !has nw f.1) v B l _ enters_merge (merge_keeps w.heap.size _ nw _ hcn (own_holds ho2) h2) (holds_below h (hb2.mono hB)) h1)
  have HL := Lib.hid hb2
  have HN := Lib.hid (And.intro hcn ho2)
  clear hb2 hcn h hown ho2
  go_enter Try.func23, Try.ntmps23
  go_wp2_with (fail)
  go_at_call 29
  refine HF.out.mono ?_
  rintro e w3 ⟨v3, rfl, hown3, hb3⟩
  have hc3 : w3.cell? ⟨w.heap.size, 0, none⟩ = some (.slice (some ⟨g, 0, none⟩) nw.length cp) := (hb3.cell (p := ⟨w.heap.size, 0, none⟩) (by rw [World.size_alloc]; exact Nat.lt_succ_self _)).trans HN.out.1
  have hn3 := row_below HN.out.2 hb3
  have hcells := Lib.hid (hn3.cells (g := g) rfl)
  have hz3 := hb3.size
  have HB := Lib.hid (HL.out.trans (hb3.mono (by simp)))
  have hown := own_mono hown3 (B' := w.heap.size) (by simp)
  rw [show l.filter (fun f => !has nw f.1) = keepm nw l from rfl] at hown
  have HKL := Lib.hid (keepm_le nw l)
  have hL := fcs_len (keepm nw l)
  clear hb3 hown3 hn3
  go_wp2_with (at_builtin; refine wpList_append_own _ rfl (.tmp 9) (.tmp 10) 26 rfl w.heap.size 42 i0 (.agg #[.string ⟨#[]⟩, .string ⟨#[]⟩]) 2 32 Try.underlying26 hi hz0 hz1 hz2 rfl (by decide) _ _ _ rfl hown ⟨g, 0, none⟩ nw.length cp (fcs nw) rfl (fcs_len nw) hcells.out (fcs_one nw) (by have := HKL.out; unfold maxLen; omega) (by have := HKL.out; omega) (by have := HB.out.size; omega) ?_; intro v1 w4 hown1 hg4 _)
  have R := Lib.hid (And.intro (show Own w4 w.heap.size v1 (merged l nw) by
    show w4.ownsRow _ _ _ _ (keepm nw l ++ nw).length (fcs (keepm nw l ++ nw))
    rw [List.length_append, show fcs (keepm nw l ++ nw) = fcs (keepm nw l) ++ fcs nw by unfold fcs; rw [List.flatMap_append]]
    exact hown1) (HB.out.grown hg4 HB.out.size (fun k e => (hown.lt k e).1)))
  clear hown1 hg4 hown
  go_wp2
  go_ret
  exact ⟨_, rfl, R.out.1, R.out.2⟩

set_option maxHeartbeats 2000000 in
theorem spec_merge (v vn : Value) (B g cp : Nat) (l nw : List Fld) (w : World) (h : Holds w B v l) (hB : B ≤ w.heap.size) (hn : vn = .slice (some ⟨g, 0, none⟩) nw.length cp) (hown : Own w 0 vn nw) (h1 : l.length ≤ 1048576) (h2 : total nw ≤ 1048576) :
    Calls Try.prog 22 #[v, vn] w (FilterEnd (merged l nw) w) := by
  subst hn
  have h2' : nw.length ≤ 1048576 := by unfold total at h2; omega
  obtain ⟨i0, hi, hz0, hz1, hz2⟩ := info_parts info_fld
  have hshape : ∃ a cap, v = .slice a l.length cap ∧ (0 < l.length → ∃ b off, a = some ⟨b, off, none⟩ ∧ b < w.heap.size ∧ At w b off l) := by
    rcases h with ⟨rfl, a, cap, rfl⟩ | ⟨h0, b, off, cap, rfl, hb, _, hc⟩
    · exact ⟨a, cap, rfl, fun h => by simp at h⟩
    · exact ⟨_, cap, rfl, fun _ => ⟨b, off, rfl, by omega, hc⟩⟩
  obtain ⟨a, cap, rfl, ha⟩ := hshape
  have HA := Lib.hid ha
  have HN := Lib.hid hown
  have HT := Lib.hid h2
  have HO := Lib.hid (own_lit_nil w)
  clear ha h hown h2
  go_enter Try.func22, Try.ntmps22
  go_wp2
  go_loopw [5, 6] (fun v i wr => ∃ k : Nat, k ≤ l.length ∧ i = .int .i64 (k : Int) ∧ Own wr w.heap.size v (keepm nw (l.take k)) ∧ Below w.heap.size w wr) (fun _ i _ => l.length - (intOf i).toNat)
  case atStart => exact ⟨0, Nat.zero_le _, rfl, by rw [List.take_zero]; exact HO.out, (Below.refl _ _).alloc (Nat.le_refl _) _⟩
  case round =>
    clear HO
    obtain ⟨k, hk, rfl, hown, hb⟩ := hrel
    by_cases hlt : k < l.length
    · obtain ⟨b, off, rfl, hbl, hc⟩ := HA.out (by omega)
      obtain ⟨c1, c2⟩ := at_below hc hb hbl k hlt
      have HM := Lib.hid (keepm_more (nw := nw) hlt)
      have HB := Lib.hid hb
      have HW := Lib.hid hown
      have HC := Lib.hid hc
      have hbs := hb.size
      have hnr := own_holds (row_below HN.out hb)
      generalize hx : l.getD k nofld = f at c1 c2 HM
      obtain ⟨x, y⟩ := f
      have HX := Lib.hid hx
      unfold sv at c1 c2
      have HG := Lib.hid (spec_get _ _ nw x wr hnr (by have := HT.out; omega))
      clear hb hown hc hnr hx
      go_wp2_with (fail)
      go_at_call 10
      refine HG.out.mono ?_
      rintro e w1 ⟨he, hb1⟩
      rw [has_vals] at he
      have hb2 := HB.out.trans (hb1.mono hbs)
      have hown := row_below HW.out hb1
      obtain ⟨d1, d2⟩ := at_below HC.out hb2 hbl k hlt
      rw [HX.out] at d1 d2
      unfold sv at d1 d2
      have HB := Lib.hid hb2
      clear hb1 hb2 c1 c2
      generalize Tx.join (vals x nw) = jj at he
      by_cases hh : has nw x = true
      · rw [hh] at he
        rw [if_pos hh] at HM
        subst he
        have HO := Lib.hid hown
        clear hown
        go_wp2
        go_roundw
        case rel => exact ⟨k + 1, by omega, by go_num, by rw [HM.out]; exact HO.out, HB.out⟩
        case measure => simp [intOf]; omega
      · have hh' : has nw x = false := by simpa using hh
        rw [hh'] at he
        rw [if_neg hh] at HM
        subst he
        have hL := fcs_len (keepm nw (l.take k))
        have HL := Lib.hid (show (keepm nw (l.take k)).length ≤ 1048576 by have h1 := keepm_le nw (l.take k); have h2 := List.length_take_le' k l; omega)
        go_wp2_with (at_builtin; refine wpList_append_own _ rfl (.tmp 28) (.tmp 33) 26 rfl w.heap.size 42 i0 (.agg #[.string ⟨#[]⟩, .string ⟨#[]⟩]) 2 32 Try.underlying26 hi hz0 hz1 hz2 rfl (by decide) _ _ _ rfl (hown.alloc _) ⟨w1.heap.size, 0, none⟩ 1 1 [.string ⟨x.toArray⟩, .string ⟨y.toArray⟩] rfl rfl (news_two _ _ _ _) (two_one (x, y)) (by have := HL.out; unfold maxLen; omega) (by have := HL.out; omega) (by have := HB.out.size; simp; omega) ?_; intro v1 w2 hown1 hg1 _)
        have R := Lib.hid (push_own (f := (x, y)) hown HB.out (Nat.le_refl _) hown1 hg1)
        clear hown hown1 hg1
        go_wp2
        go_roundw
        case rel => exact ⟨k + 1, by omega, by go_num, by rw [HM.out]; exact R.out.1, R.out.2⟩
        case measure => simp [intOf]; omega
    · have HE : Hid (keepm nw (l.take k) = keepm nw l) := Lib.hid (by rw [List.take_of_length_le (by omega)])
      rw [HE.out] at hown
      have HKL := Lib.hid (keepm_le nw l)
      have hL := fcs_len (keepm nw l)
      have hcells := Lib.hid ((row_below HN.out hb).cells (g := g) rfl)
      have HB := Lib.hid hb
      clear hb
      go_wp2_with (at_builtin; refine wpList_append_own _ rfl (.tmp 35) (.tmp 36) 26 rfl w.heap.size 42 i0 (.agg #[.string ⟨#[]⟩, .string ⟨#[]⟩]) 2 32 Try.underlying26 hi hz0 hz1 hz2 rfl (by decide) _ _ _ rfl hown ⟨g, 0, none⟩ nw.length cp (fcs nw) rfl (fcs_len nw) hcells.out (fcs_one nw) (by have := HKL.out; unfold maxLen; omega) (by have := HKL.out; omega) (by have := HB.out.size; omega) ?_; intro v1 w4 hown1 hg4 _)
      have R := Lib.hid (And.intro (show Own w4 w.heap.size v1 (merged l nw) by
        show w4.ownsRow _ _ _ _ (keepm nw l ++ nw).length (fcs (keepm nw l ++ nw))
        rw [List.length_append, show fcs (keepm nw l ++ nw) = fcs (keepm nw l) ++ fcs nw by unfold fcs; rw [List.flatMap_append]]
        exact hown1) (HB.out.grown hg4 HB.out.size (fun k e => (hown.lt k e).1)))
      clear hown1 hg4 hown
      go_wp2
      go_ret
      exact ⟨_, rfl, R.out.1, R.out.2⟩
end Go.Proofs.Ytdnnnkilbflhlaa.Flds
