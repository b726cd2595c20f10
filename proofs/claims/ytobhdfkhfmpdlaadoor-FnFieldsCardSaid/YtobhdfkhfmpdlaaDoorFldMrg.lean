/-
  CONTRACTS of MergeFields, the model's and the program's: in new memory, the fields whose name the newer ones do not have, followed by the newer ones; nothing that was there before is changed.
-/
import Derived.Test.YtobhdfkhfmpdlaaDoorFldGet
namespace Go.Proofs.YtobhdfkhfmpdlaaDoor.Flds
open Go Go.RowKit
set_option linter.unusedVariables false
set_option maxRecDepth 1000000

def has (nw : List Fld) (n : List UInt8) : Bool := nw.any (fun f => f.1 == n)
theorem has_vals (nw : List Fld) (n : List UInt8) : decide (0 < (vals n nw).length) = has nw n := by
  unfold vals has
  rw [List.length_map]
  induction nw with
  | nil => rfl
  | cons a r ih =>
    by_cases h : (a.1 == n) = true
    · rw [List.filter_cons_of_pos (by exact h), List.any_cons, h]; simp
    · rw [List.filter_cons_of_neg (by exact h), List.any_cons, ih]; simp [h]
def keepm (nw l : List Fld) : List Fld := l.filter (fun f => !has nw f.1)
def merged (l nw : List Fld) : List Fld := keepm nw l ++ nw
theorem keepm_le (nw l : List Fld) : (keepm nw l).length ≤ l.length := List.length_filter_le _ _
theorem keepm_more {nw l : List Fld} {k : Nat} (h : k < l.length) : keepm nw (l.take (k + 1)) = if has nw (l.getD k nofld).1 = true then keepm nw (l.take k) else keepm nw (l.take k) ++ [l.getD k nofld] := by
  unfold keepm
  rw [filt_more h]
  by_cases e : has nw (l.getD k nofld).1 = true
  · rw [if_pos e, if_neg (by rw [e]; decide)]
  · rw [if_neg e, if_pos (by simpa using e)]

/-! slices.IndexFunc and slices.ContainsFunc at a closure that only reads -/
theorem any_more {p : Fld → Bool} {l : List Fld} {k : Nat} (h : k < l.length) : (l.take (k + 1)).any p = ((l.take k).any p || p (l.getD k nofld)) := by
  rw [List.take_succ_eq_append_getElem h, List.any_append, show l.getD k nofld = l[k] by simp [List.getD, h]]; simp
theorem any_take {p : Fld → Bool} {l : List Fld} {k : Nat} (h : (l.take k).any p = true) : l.any p = true := by
  rw [List.any_eq_true] at h ⊢
  obtain ⟨x, hx, hp⟩ := h
  exact ⟨x, List.mem_of_mem_take hx, hp⟩
def IdxEnd (p : Fld → Bool) (l : List Fld) (w : World) (e : Ending) (w' : World) : Prop := ∃ z : Int, e = .returned (.int .i64 z) ∧ ((0 ≤ z ∧ l.any p = true) ∨ (z < 0 ∧ l.any p = false)) ∧ Below w.heap.size w w'

set_option maxRecDepth 1000000 in
theorem idx_nil (K : FuncId) (q : Value) (p : Fld → Bool) (a : Option Addr) (cap : Nat) (w : World) :
    Calls Tryd.prog 80 #[.slice a 0 cap, .func (.func K) #[] #[q]] w (IdxEnd p [] w) := by
  go_enter Tryd.func80, Tryd.ntmps80
  go_wp2
  go_loop [8] (fun i => i = .int .i64 0) (fun i => 0)
  case atStart => rfl
  case round =>
    obtain rfl := hrel
    go_wp2
    go_ret
    exact ⟨_, rfl, Or.inr ⟨by decide, rfl⟩, Below.refl _ _⟩

set_option maxRecDepth 1000000 in
set_option maxHeartbeats 1000000 in
theorem idx_some (K : FuncId) (q : Value) (p : Fld → Bool) (b off cap : Nat) (l : List Fld) (w : World) (hE : Enters K) (hK : Keeps K q p w) (hc : At w b off l) (h0 : 0 < l.length) (hl : l.length ≤ 1048576) :
    Calls Tryd.prog 80 #[.slice (some ⟨b, off, none⟩) l.length cap, .func (.func K) #[] #[q]] w (IdxEnd p l w) := by
  have hbl := at_lt hc h0
  have HC := Lib.hid hc
  have HK := Lib.hid hK
  have HE := Lib.hid hE
  clear hc hK hE
  go_enter Tryd.func80, Tryd.ntmps80
  go_wp2
  go_loopw [8] (fun i wr => ∃ k : Nat, k ≤ l.length ∧ i = .int .i64 (k : Int) ∧ Hid ((l.take k).any p = false) ∧ Below w.heap.size w wr) (fun i _ => l.length - (intOf i).toNat)
  case atStart => exact ⟨0, Nat.zero_le _, rfl, rfl, Below.refl _ _⟩
  case round =>
    obtain ⟨k, hk, rfl, hn, hb⟩ := hrel
    by_cases hlt : k < l.length
    · obtain ⟨c1, c2⟩ := at_below HC.out hb hbl k hlt
      have HM := Lib.hid (any_more (p := p) hlt)
      generalize l.getD k nofld = f at c1 c2 HM
      obtain ⟨x, y⟩ := f
      unfold sv at c1 c2
      have HB := Lib.hid hb
      have HKx := Lib.hid (HK.out x y wr hb)
      clear hb
      by_cases hp : p (x, y) = true
      · have HT : Hid (l.any p = true) := Lib.hid (any_take (k := k + 1) (by rw [HM.out, hp]; simp))
        rw [hp] at HKx
        clear hp HM hn
        go_wp2_with (fail)
        rw [HE.out, Oper.upon_enter]
        refine HKx.out.mono ?_
        rintro e w1 ⟨rfl, hb1⟩
        have HB1 := Lib.hid (Base.then_below HB.out hb1)
        clear hb1
        go_wp2
        go_ret
        exact ⟨_, rfl, Or.inl ⟨by omega, HT.out⟩, HB1.out⟩
      · have hp' : p (x, y) = false := by simpa using hp
        have HT : Hid ((l.take (k + 1)).any p = false) := Lib.hid (by rw [HM.out, hn.out, hp']; rfl)
        rw [hp'] at HKx
        clear hp hp' HM hn
        go_wp2_with (fail)
        rw [HE.out, Oper.upon_enter]
        refine HKx.out.mono ?_
        rintro e w1 ⟨rfl, hb1⟩
        have HB1 := Lib.hid (Base.then_below HB.out hb1)
        clear hb1
        go_wp2
        go_roundw
        case rel => exact ⟨k + 1, by omega, by go_num, HT.out, HB1.out⟩
        case measure => simp [intOf]; omega
    · have HT : Hid (l.any p = false) := Lib.hid (by have h := hn.out; rwa [List.take_of_length_le (by omega)] at h)
      go_wp2
      go_ret
      exact ⟨_, rfl, Or.inr ⟨by decide, HT.out⟩, hb⟩

theorem idx_any (K : FuncId) (q : Value) (p : Fld → Bool) (v : Value) (B : Nat) (l : List Fld) (w : World) (hE : Enters K) (hK : Keeps K q p w) (h : Holds w B v l) (hl : l.length ≤ 1048576) :
    Calls Tryd.prog 80 #[v, .func (.func K) #[] #[q]] w (IdxEnd p l w) := by
  rcases h with ⟨rfl, a, cap, rfl⟩ | ⟨h0, b, off, cap, rfl, _, _, hc⟩
  · exact idx_nil K q p a cap w
  · exact idx_some K q p b off cap l w hE hK hc h0 hl

set_option maxRecDepth 1000000 in
theorem contains_any (K : FuncId) (q : Value) (p : Fld → Bool) (v : Value) (B : Nat) (l : List Fld) (w : World) (hE : Enters K) (hK : Keeps K q p w) (h : Holds w B v l) (hl : l.length ≤ 1048576) :
    Calls Tryd.prog 57 #[v, .func (.func K) #[] #[q]] w fun e w' => e = .returned (.bool (l.any p)) ∧ Below w.heap.size w w' := by
  have HI := Lib.hid (idx_any K q p v B l w hE hK h hl)
  clear h hK hE
  go_enter Tryd.func57, Tryd.ntmps57
  go_wp2_with (fail)
  go_at_call 80
  refine HI.out.mono ?_
  rintro e w1 ⟨z, rfl, hz, hb⟩
  rcases hz with ⟨hz, hp⟩ | ⟨hz, hp⟩
  · have HP := Lib.hid hp
    have HB := Lib.hid hb
    clear hb hp
    go_wp2
    go_ret
    exact ⟨congrArg (fun q => Ending.returned (.bool q)) (show true = l.any p from HP.out.symm), HB.out⟩
  · have HP := Lib.hid hp
    have hzn : ¬ 0 ≤ z := by omega
    have HB := Lib.hid hb
    clear hb hp
    go_wp2
    go_ret
    exact ⟨congrArg (fun q => Ending.returned (.bool q)) (show decide (0 ≤ z) = l.any p by rw [HP.out]; simp; omega), HB.out⟩

set_option maxRecDepth 1000000 in
theorem enters_has : Enters 77 := fun args w => rfl
set_option maxRecDepth 1000000 in
theorem enters_merge : Enters 49 := fun args w => rfl
set_option maxRecDepth 1000000 in
theorem has_keeps (g : Nat) (n : List UInt8) (w : World) (hc : w.cell? ⟨g, 0, none⟩ = some (.string ⟨n.toArray⟩)) : Keeps 77 (.pointer (some ⟨g, 0, none⟩)) (fun f => f.1 == n) w := by
  intro x y wx hb
  have hg := lt_of_cell hc
  have hgx : g < wx.heap.size := Nat.lt_of_lt_of_le hg hb.size
  have hcx : wx.cell? ⟨g, 0, none⟩ = some (.string ⟨n.toArray⟩) := (hb.cell (p := ⟨g, 0, none⟩) hg).trans hc
  have HB := Lib.hid ((Below.refl wx.heap.size wx).alloc (Nat.le_refl _) (.cells #[.string ⟨x.toArray⟩, .string ⟨y.toArray⟩] 46))
  clear hb hc hg
  by_cases e : x = n
  · subst e
    go_enter Tryd.func77, Tryd.ntmps77
    go_wp2
    go_ret
    exact ⟨by simp, HB.out⟩
  · have hq : (x == n) = false := by simpa using e
    go_enter Tryd.func77, Tryd.ntmps77
    go_wp2
    go_ret
    exact ⟨by simp [e], HB.out⟩

set_option maxRecDepth 1000000 in
theorem impl_has (v : Value) (B : Nat) (nw : List Fld) (n : List UInt8) (w : World) (h : Holds w B v nw) (hB : B ≤ w.heap.size) (hl : nw.length ≤ 1048576) :
    Calls Tryd.prog 50 #[v, .string ⟨n.toArray⟩] w fun e w' => e = .returned (.bool (has nw n)) ∧ Below w.heap.size w w' := by
  have hmf : ∀ (fn : Fn) (first cap : Array Value) (w : World), (Instr.makeFunc fn first cap).run Tryd.prog w = .ok (.func fn first cap) w := fun _ _ _ _ => rfl
  have hb2 : Below w.heap.size w (w.alloc (.cells #[.string ⟨n.toArray⟩] 9)) := (Below.refl _ _).alloc (Nat.le_refl _) _
  have hcn : (w.alloc (.cells #[.string ⟨n.toArray⟩] 9)).cell? ⟨w.heap.size, 0, none⟩ = some (.string ⟨n.toArray⟩) := by
    rw [World.cell?_alloc_at _ _ _ _ rfl]; rfl
  have HF := Lib.hid (contains_any 77 (.pointer (some ⟨w.heap.size, 0, none⟩)) (fun f => f.1 == n) v B nw _ enters_has (has_keeps w.heap.size n _ hcn) (holds_below h (hb2.mono hB)) hl)
  have HL := Lib.hid hb2
  clear hb2 hcn h
  unfold has
  go_enter Tryd.func50, Tryd.ntmps50
  go_wp2_with (fail)
  go_at_call 57
  refine HF.out.mono ?_
  rintro e w3 ⟨rfl, hb3⟩
  have HR := Lib.hid (HL.out.trans (hb3.mono (by simp)))
  clear hb3
  go_wp2
  go_ret
  exact ⟨rfl, HR.out⟩

set_option maxRecDepth 1000000 in
theorem merge_keeps (g : Nat) (vn : Value) (nw : List Fld) (w : World) (hc : w.cell? ⟨g, 0, none⟩ = some vn) (h : Holds w w.heap.size vn nw) (hl : nw.length ≤ 1048576) : Keeps 49 (.pointer (some ⟨g, 0, none⟩)) (fun f => !has nw f.1) w := by
  intro x y wx hb
  have hg := lt_of_cell hc
  have hgx : g < wx.heap.size := Nat.lt_of_lt_of_le hg hb.size
  have hcx : wx.cell? ⟨g, 0, none⟩ = some vn := (hb.cell (p := ⟨g, 0, none⟩) hg).trans hc
  have hba : Below wx.heap.size wx (wx.alloc (.cells #[.string ⟨x.toArray⟩, .string ⟨y.toArray⟩] 46)) := (Below.refl wx.heap.size wx).alloc (Nat.le_refl _) _
  have hh := holds_below (holds_below h hb) (hba.mono hb.size)
  have HC := Lib.hid (impl_has vn _ nw x _ hh (Nat.le_trans hb.size (by simp)) hl)
  have HB := Lib.hid hba
  obtain ⟨a, n', cap, rfl⟩ : ∃ a n' cap, vn = .slice a n' cap := by
    rcases h with ⟨_, a, cap, rfl⟩ | ⟨_, b, off, cap, rfl, _⟩
    · exact ⟨_, _, _, rfl⟩
    · exact ⟨_, _, _, rfl⟩
  clear hb hc hg hba hh h
  simp only
  generalize has nw x = t at HC ⊢
  go_enter Tryd.func49, Tryd.ntmps49
  go_wp2_with (fail)
  go_at_call 50
  refine HC.out.mono ?_
  rintro e w3 ⟨rfl, hb3⟩
  have HR := Lib.hid (HB.out.trans (hb3.mono (by simp)))
  clear hb3
  go_wp2
  go_ret
  exact ⟨rfl, HR.out⟩

set_option maxRecDepth 1000000 in
set_option maxHeartbeats 1000000 in
theorem impl_merge (v vn : Value) (B g cp : Nat) (l nw : List Fld) (w : World) (h : Holds w B v l) (hB : B ≤ w.heap.size) (hn : vn = .slice (some ⟨g, 0, none⟩) nw.length cp) (hown : Own w 0 vn nw) (h1 : l.length ≤ 1048576) (h2 : nw.length ≤ 1048576) :
    Calls Tryd.prog 19 #[v, vn] w (FilterEnd (merged l nw) w) := by
  subst hn
  have hmf : ∀ (fn : Fn) (first cap : Array Value) (w : World), (Instr.makeFunc fn first cap).run Tryd.prog w = .ok (.func fn first cap) w := fun _ _ _ _ => rfl
  obtain ⟨i0, hi, hz0, hz1, hz2⟩ := info_parts info_fld
  have hb2 : Below w.heap.size w (w.alloc (.cells #[.slice (some ⟨g, 0, none⟩) nw.length cp] 34)) := (Below.refl _ _).alloc (Nat.le_refl _) _
  have hcn : (w.alloc (.cells #[.slice (some ⟨g, 0, none⟩) nw.length cp] 34)).cell? ⟨w.heap.size, 0, none⟩ = some (.slice (some ⟨g, 0, none⟩) nw.length cp) := by
    rw [World.cell?_alloc_at _ _ _ _ rfl]; rfl
  have ho2 := row_below hown hb2
  have HF := Lib.hid (filter_any 49 (.pointer (some ⟨w.heap.size, 0, none⟩)) (fun f => !has nw f.1) v B l _ enters_merge (merge_keeps w.heap.size _ nw _ hcn (own_holds ho2) h2) (holds_below h (hb2.mono hB)) h1)
  have HL := Lib.hid hb2
  have HN := Lib.hid (And.intro hcn ho2)
  clear hb2 hcn h hown ho2
  go_enter Tryd.func19, Tryd.ntmps19
  go_wp2_with (fail)
  go_at_call 43
  refine HF.out.mono ?_
  rintro e w3 ⟨v3, rfl, hown3, hb3⟩
  have hc3 : w3.cell? ⟨w.heap.size, 0, none⟩ = some (.slice (some ⟨g, 0, none⟩) nw.length cp) := (hb3.cell (p := ⟨w.heap.size, 0, none⟩) (by rw [World.size_alloc]; exact Nat.lt_succ_self _)).trans HN.out.1
  have hn3 := row_below HN.out.2 hb3
  have hcells := Lib.hid (hn3.cells (g := g) rfl)
  have hz3 := hb3.size
  have HB := Lib.hid (HL.out.trans (hb3.mono (by simp)))
  have hown := own_mono hown3 (B' := w.heap.size) (by simp)
  rw [show l.filter (fun f => !has nw f.1) = keepm nw l from rfl] at hown
  have HKL := Lib.hid (keepm_le nw l)
  have hL := fcs_len (keepm nw l)
  clear hb3 hown3 hn3
  go_wp2_with (at_builtin; refine wpList_append_own _ rfl (.tmp 9) (.tmp 10) 34 rfl w.heap.size 46 i0 (.agg #[.string ⟨#[]⟩, .string ⟨#[]⟩]) 2 32 Tryd.underlying34 hi hz0 hz1 hz2 rfl (by decide) _ _ _ rfl hown ⟨g, 0, none⟩ nw.length cp (fcs nw) rfl (fcs_len nw) hcells.out (fcs_one nw) (by have := HKL.out; unfold maxLen; omega) (by have := HKL.out; omega) (by have := HB.out.size; omega) ?_; intro v1 w4 hown1 hg4 _)
  have R := Lib.hid (And.intro (show Own w4 w.heap.size v1 (merged l nw) by
    show w4.ownsRow _ _ _ _ (keepm nw l ++ nw).length (fcs (keepm nw l ++ nw))
    rw [List.length_append, show fcs (keepm nw l ++ nw) = fcs (keepm nw l) ++ fcs nw by unfold fcs; rw [List.flatMap_append]]
    exact hown1) (HB.out.grown hg4 HB.out.size (fun k e => (hown.lt k e).1)))
  clear hown1 hg4 hown
  go_wp2
  go_ret
  exact ⟨_, rfl, R.out.1, R.out.2⟩

end Go.Proofs.YtobhdfkhfmpdlaaDoor.Flds
