/-
  CONTRACTS of FindResource, the model's and the program's, with slices.IndexFunc at the closure of the target; nothing that was there before is changed.
-/
import Derived.Test.YtggokmhdmnkoiaaOrg
namespace Go.Proofs.Ytggokmhdmnkoiaa.Org
open Go Go.RowKit
set_option linter.unusedVariables false
set_option maxRecDepth 1000000
set_option maxRecDepth 1000000

/-- The place of the first page with this target. -/
def fix (t : List UInt8) (l : List Rsl.T) : Nat := l.findIdx (fun e => e.et == t)
def frs (t : List UInt8) (l : List Rsl.T) : Int := if fix t l < l.length then (fix t l : Int) else -1
theorem fix_hit {n : List UInt8} {l : List Rsl.T} {k : Nat} (hk : k ≤ fix n l) (h : k < l.length) (e : (l.getD k Rsl.nov).et = n) : frs n l = (k : Int) := by
  have hg : l.getD k Rsl.nov = l[k] := by simp [List.getD, h]
  have h1 : fix n l ≤ k := by
    rcases Nat.lt_or_ge k (fix n l) with hlt | hge
    · have := List.not_of_lt_findIdx (p := fun d : Rsl.T => d.et == n) (xs := l) hlt
      rw [hg] at e
      simp [e] at this
    · exact hge
  have : fix n l = k := by omega
  unfold frs; rw [this, if_pos h]
theorem fix_miss {n : List UInt8} {l : List Rsl.T} {k : Nat} (hk : k ≤ fix n l) (h : k < l.length) (e : (l.getD k Rsl.nov).et ≠ n) : k + 1 ≤ fix n l := by
  have hg : l.getD k Rsl.nov = l[k] := by simp [List.getD, h]
  rcases Nat.lt_or_ge k (fix n l) with hlt | hge
  · exact hlt
  · have hkk : fix n l = k := by omega
    exfalso
    apply e
    rw [hg]
    have h2 : fix n l < l.length := by omega
    have := List.findIdx_getElem (p := fun d : Rsl.T => d.et == n) (xs := l) (w := h2)
    have e3 : l[List.findIdx (fun d : Rsl.T => d.et == n) l]'h2 = l[k] := by congr 1
    rw [e3] at this
    simpa using this
theorem fix_end {n : List UInt8} {l : List Rsl.T} {k : Nat} (hk : k ≤ fix n l) (h : ¬ k < l.length) : frs n l = -1 := by
  unfold frs; rw [if_neg (by omega)]
theorem sl_s {w : World} {B : Nat} {v : Value} {l : List (List UInt8)} (h : Strs.Holds w B v l) : ∃ a n c, v = .slice a n c := by
  rcases h with ⟨_, a, cap, rfl⟩ | ⟨_, b, off, cap, rfl, _⟩ <;> exact ⟨_, _, _, rfl⟩
theorem sl_v {w : World} {B : Nat} {v : Value} {l : List Ver.T} (h : Ver.Holds w B v l) : ∃ a n c, v = .slice a n c := by
  rcases h with ⟨_, a, cap, rfl⟩ | ⟨_, b, off, cap, rfl, _⟩ <;> exact ⟨_, _, _, rfl⟩
def NumEnd (n : Int) (w : World) (e : Ending) (w' : World) : Prop := e = .returned (.int .i64 n) ∧ Below w.heap.size w w'
theorem ret_int {a b : Int} (h : a = b) : Ending.returned (.int .i64 a) = .returned (.int .i64 b) := by rw [h]
def Enters (K : FuncId) : Prop := ∀ (args : Array Value) (w : World), Sem.run Try.prog (callFunc K args) w = .ok (.enter K args) w

set_option maxHeartbeats 4000000 in
theorem spec_frs (h : List UInt8) (u : Value) (B : Nat) (l : List Rsl.T) (n : List UInt8) (w : World) (hu : Rsl.Holds w B u l) (hB : B ≤ w.heap.size) (hl : l.length ≤ 1048576) :
    Calls Try.prog 19 #[.agg #[.string ⟨h.toArray⟩, u], .string ⟨n.toArray⟩] w (NumEnd (frs n l) w) := by
  rcases Nst.holds_cases hu with ⟨rfl, a, cap, rfl⟩ | ⟨hp, b, off, cap, rfl, hbB, _, rows, h1, h2, h4⟩
  · have HB0 := Lib.hid ((Below.refl w.heap.size w).alloc (Nat.le_refl _) (.cells #[.string ⟨h.toArray⟩, .slice a 0 cap] 45))
    go_enter Try.func19, Try.ntmps19
    go_wp2
    go_loop [5] (fun i => i = .int .i64 0) (fun i => 0)
    case atStart => rfl
    case round =>
      obtain rfl := hrel
      go_wp2
      go_ret
      exact ⟨rfl, HB0.out⟩
  · have HB0 := Lib.hid ((Below.refl w.heap.size w).alloc (Nat.le_refl _) (.cells #[.string ⟨h.toArray⟩, .slice (some ⟨b, off, none⟩) l.length cap] 45))
    have HBX := Lib.hid (fun W (hb : Below (w.alloc (.cells #[.string ⟨h.toArray⟩, .slice (some ⟨b, off, none⟩) l.length cap] 45)).heap.size (w.alloc (.cells #[.string ⟨h.toArray⟩, .slice (some ⟨b, off, none⟩) l.length cap] 45)) W) => (Kept.Box.new (w := w) (T := 45) (a := #[.string ⟨h.toArray⟩, .slice (some ⟨b, off, none⟩) l.length cap])).below hb)
    have HC := Lib.hid h2
    have HRW := Lib.hid h4
    have HLN := Lib.hid h1
    clear hu h1 h2 h4
    go_enter Try.func19, Try.ntmps19
    go_wp2
    go_loopw [5] (fun i wr => ∃ k : Nat, k ≤ l.length ∧ i = .int .i64 (k : Int) ∧ Hid (k ≤ fix n l) ∧ Below (w.alloc (.cells #[.string ⟨h.toArray⟩, .slice (some ⟨b, off, none⟩) l.length cap] 45)).heap.size (w.alloc (.cells #[.string ⟨h.toArray⟩, .slice (some ⟨b, off, none⟩) l.length cap] 45)) wr) (fun i _ => l.length - (intOf i).toNat)
    case atStart => exact ⟨0, Nat.zero_le _, rfl, Lib.hid (Nat.zero_le _), Below.refl _ _⟩
    case round =>
      obtain ⟨k, hk, rfl, HF, hb⟩ := hrel
      have x1 := (HBX.out _ hb).cell 1 _ rfl
      have hbw : Below w.heap.size w wr := HB0.out.trans (hb.mono HB0.out.size)
      have HBW := Lib.hid hbw
      have HBR := Lib.hid hb
      by_cases hlt : k < l.length
      · have hA := Rec.at_below HC.out (hbw.mono (by omega)) hbB
        have hrk := Rsl.rd_below (hbw.mono hB) (HRW.out k hlt)
        have hki : (k : Int) < (l.length : Int) := by omega
        by_cases e : (l.getD k Rsl.nov).et = n
        · have HE := Lib.hid (fix_hit HF.out hlt e)
          obtain ⟨uu, uv, hcs, huu, huv⟩ := hrk
          rw [e] at hcs
          have cc0 : wr.cell? ⟨b, off + k * 6, none⟩ = some (.string ⟨n.toArray⟩) := Nst.at_cell (i := 0) hA (by rw [HLN.out]; exact hlt) hcs rfl
          clear hb hbw hA hcs huu huv e
          go_wp2
          go_ret
          exact ⟨(ret_int HE.out).symm, HBW.out⟩
        · have HM := Lib.hid (fix_miss HF.out hlt e)
          obtain ⟨uu, uv, hcs, huu, huv⟩ := hrk
          generalize (l.getD k Rsl.nov).et = x at hcs e
          have hq : (x == n) = false := by simpa using e
          have cc0 : wr.cell? ⟨b, off + k * 6, none⟩ = some (.string ⟨x.toArray⟩) := Nst.at_cell (i := 0) hA (by rw [HLN.out]; exact hlt) hcs rfl
          clear hb hbw hA hcs huu huv e
          go_wp2
          go_roundw
          case rel => exact ⟨k + 1, by omega, by go_num, HM, HBR.out⟩
          case measure => simp [intOf]; omega
      · have HE := Lib.hid (fix_end HF.out hlt)
        clear hb hbw
        go_wp2
        go_ret
        exact ⟨(ret_int HE.out).symm, HBW.out⟩

/-- The closure: whether a page has the target that stands in the cell q. -/
theorem clo (g : Nat) (n et ec ek : List UInt8) (ep : Bool) (au av : Option Addr) (nu cu nv cv : Nat) (w : World) (hq : w.cell? ⟨g, 0, none⟩ = some (.string ⟨n.toArray⟩)) :
    Calls Try.prog 39 #[.agg #[.string ⟨et.toArray⟩, .string ⟨ec.toArray⟩, .string ⟨ek.toArray⟩, .bool ep, .slice au nu cu, .slice av nv cv], .pointer (some ⟨g, 0, none⟩)] w fun e w' => e = .returned (.bool (et == n)) ∧ Below w.heap.size w w' := by
  have HB := Lib.hid ((Below.refl w.heap.size w).alloc (Nat.le_refl _) (.cells #[.string ⟨et.toArray⟩, .string ⟨ec.toArray⟩, .string ⟨ek.toArray⟩, .bool ep, .slice au nu cu, .slice av nv cv] 69))
  have hlt := Rec.lt_of_cell hq
  have q1 : (w.alloc (.cells #[.string ⟨et.toArray⟩, .string ⟨ec.toArray⟩, .string ⟨ek.toArray⟩, .bool ep, .slice au nu cu, .slice av nv cv] 69)).cell? ⟨g, 0, none⟩ = some (.string ⟨n.toArray⟩) := (HB.out.cell (p := ⟨g, 0, none⟩) hlt).trans hq
  by_cases e : et = n
  · subst e
    clear hq
    go_enter Try.func39, Try.ntmps39
    go_wp2
    go_ret
    exact ⟨by simp, HB.out⟩
  · have hne : (et == n) = false := by simpa using e
    clear hq e
    rw [hne]
    go_enter Try.func39, Try.ntmps39
    go_wp2
    go_ret
    exact ⟨rfl, HB.out⟩

theorem idx_nil (K : FuncId) (q : Value) (n : List UInt8) (a : Option Addr) (cap : Nat) (w : World) :
    Calls Try.prog 38 #[.slice a 0 cap, .func (.func K) #[] #[q]] w (NumEnd (frs n []) w) := by
  go_enter Try.func38, Try.ntmps38
  go_wp2
  go_loop [8] (fun i => i = .int .i64 0) (fun i => 0)
  case atStart => rfl
  case round =>
    obtain rfl := hrel
    go_wp2
    go_ret
    exact ⟨rfl, Below.refl _ _⟩

set_option maxHeartbeats 4000000 in
theorem idx_some (K : FuncId) (hE : Enters K) (g : Nat) (n : List UInt8) (b off cap B : Nat) (l : List Rsl.T) (rows : List (Nst.Row 6)) (w : World)
    (hC : ∀ (et ec ek : List UInt8) (ep : Bool) (au av : Option Addr) (nu cu nv cv : Nat) (W : World), Below w.heap.size w W → Calls Try.prog K #[.agg #[.string ⟨et.toArray⟩, .string ⟨ec.toArray⟩, .string ⟨ek.toArray⟩, .bool ep, .slice au nu cu, .slice av nv cv], .pointer (some ⟨g, 0, none⟩)] W fun e w' => e = .returned (.bool (et == n)) ∧ Below W.heap.size W w')
    (hc : Rec.At 6 Nst.cs (Nst.nov 6) w b off rows) (hlen : rows.length = l.length) (hbB : b < B) (hB : B ≤ w.heap.size) (hr : ∀ j, j < l.length → Rsl.RD w B (rows.getD j (Nst.nov 6)).l (l.getD j Rsl.nov)) (h0 : 0 < l.length) (hl : l.length ≤ 1048576) :
    Calls Try.prog 38 #[.slice (some ⟨b, off, none⟩) l.length cap, .func (.func K) #[] #[.pointer (some ⟨g, 0, none⟩)]] w (NumEnd (frs n l) w) := by
  have HC := Lib.hid hc
  have HRW := Lib.hid hr
  have HLN := Lib.hid hlen
  have HK := Lib.hid hC
  have HE := Lib.hid hE
  clear hc hr hlen hC hE
  go_enter Try.func38, Try.ntmps38
  go_wp2
  go_loopw [8] (fun i wr => ∃ k : Nat, k ≤ l.length ∧ i = .int .i64 (k : Int) ∧ Hid (k ≤ fix n l) ∧ Below w.heap.size w wr) (fun i _ => l.length - (intOf i).toNat)
  case atStart => exact ⟨0, Nat.zero_le _, rfl, Lib.hid (Nat.zero_le _), Below.refl _ _⟩
  case round =>
    obtain ⟨k, hk, rfl, HF, hb⟩ := hrel
    have HB := Lib.hid hb
    by_cases hlt : k < l.length
    · have hA := Rec.at_below HC.out (hb.mono (by omega)) hbB
      have hrk := Rsl.rd_below (hb.mono hB) (HRW.out k hlt)
      have hki : (k : Int) < (l.length : Int) := by omega
      have HH : Hid ((l.getD k Rsl.nov).et = n → frs n l = (k : Int)) := Lib.hid (fun e => fix_hit HF.out hlt e)
      have HM : Hid ((l.getD k Rsl.nov).et ≠ n → k + 1 ≤ fix n l) := Lib.hid (fun e => fix_miss HF.out hlt e)
      generalize l.getD k Rsl.nov = f at hrk HH HM
      obtain ⟨et, ec, ek, ep, egs, evs⟩ := f
      obtain ⟨uu, uv, hcs, huu, huv⟩ := hrk
      obtain ⟨au, nu, cu, rfl⟩ := sl_s huu
      obtain ⟨av, nv, cv, rfl⟩ := sl_v huv
      dsimp only at hcs HH HM
      have cc0 : wr.cell? ⟨b, off + k * 6, none⟩ = some (.string ⟨et.toArray⟩) := Nst.at_cell (i := 0) hA (by rw [HLN.out]; exact hlt) hcs rfl
      have cc1 : wr.cell? ⟨b, off + k * 6 + 1, none⟩ = some (.string ⟨ec.toArray⟩) := Nst.at_cell (i := 1) hA (by rw [HLN.out]; exact hlt) hcs rfl
      have cc2 : wr.cell? ⟨b, off + k * 6 + 2, none⟩ = some (.string ⟨ek.toArray⟩) := Nst.at_cell (i := 2) hA (by rw [HLN.out]; exact hlt) hcs rfl
      have cc3 : wr.cell? ⟨b, off + k * 6 + 3, none⟩ = some (.bool ep) := Nst.at_cell (i := 3) hA (by rw [HLN.out]; exact hlt) hcs rfl
      have cc4 : wr.cell? ⟨b, off + k * 6 + 4, none⟩ = some (.slice au nu cu) := Nst.at_cell (i := 4) hA (by rw [HLN.out]; exact hlt) hcs rfl
      have cc5 : wr.cell? ⟨b, off + k * 6 + 5, none⟩ = some (.slice av nv cv) := Nst.at_cell (i := 5) hA (by rw [HLN.out]; exact hlt) hcs rfl
      have HKx := Lib.hid (HK.out et ec ek ep au av nu cu nv cv wr hb)
      clear hb hA hcs huu huv
      by_cases e : et = n
      · have hz : (et == n) = true := by simpa using e
        have HT := Lib.hid (HH.out e)
        rw [hz] at HKx
        clear e hz HH HM
        go_wp2_with (fail)
        rw [HE.out, Oper.upon_enter]
        refine HKx.out.mono ?_
        rintro e w1 ⟨rfl, hb1⟩
        have HB1 := Lib.hid (Base.then_below HB.out hb1)
        clear hb1
        go_wp2
        go_ret
        exact ⟨(ret_int HT.out).symm, HB1.out⟩
      · have hz : (et == n) = false := by simpa using e
        have HT := Lib.hid (HM.out e)
        rw [hz] at HKx
        clear e hz HH HM
        go_wp2_with (fail)
        rw [HE.out, Oper.upon_enter]
        refine HKx.out.mono ?_
        rintro e w1 ⟨rfl, hb1⟩
        have HB1 := Lib.hid (Base.then_below HB.out hb1)
        clear hb1
        go_wp2
        go_roundw
        case rel => exact ⟨k + 1, by omega, by go_num, HT, HB1.out⟩
        case measure => simp [intOf]; omega
    · have HT := Lib.hid (fix_end HF.out hlt)
      go_wp2
      go_ret
      exact ⟨(ret_int HT.out).symm, HB.out⟩

theorem idx_any (K : FuncId) (hE : Enters K) (g : Nat) (n : List UInt8) (u : Value) (B : Nat) (l : List Rsl.T) (w : World)
    (hC : ∀ (et ec ek : List UInt8) (ep : Bool) (au av : Option Addr) (nu cu nv cv : Nat) (W : World), Below w.heap.size w W → Calls Try.prog K #[.agg #[.string ⟨et.toArray⟩, .string ⟨ec.toArray⟩, .string ⟨ek.toArray⟩, .bool ep, .slice au nu cu, .slice av nv cv], .pointer (some ⟨g, 0, none⟩)] W fun e w' => e = .returned (.bool (et == n)) ∧ Below W.heap.size W w')
    (hu : Rsl.Holds w B u l) (hB : B ≤ w.heap.size) (hl : l.length ≤ 1048576) :
    Calls Try.prog 38 #[u, .func (.func K) #[] #[.pointer (some ⟨g, 0, none⟩)]] w (NumEnd (frs n l) w) := by
  rcases Nst.holds_cases hu with ⟨rfl, a, cap, rfl⟩ | ⟨hp, b, off, cap, rfl, hbB, _, rows, h1, h2, h4⟩
  · exact idx_nil K _ n a cap w
  · exact idx_some K hE g n b off cap B l rows w hC h2 h1 hbB hB h4 hp hl

set_option maxHeartbeats 4000000 in
theorem impl_frs (h : List UInt8) (u : Value) (B : Nat) (l : List Rsl.T) (n : List UInt8) (w : World) (hu : Rsl.Holds w B u l) (hB : B ≤ w.heap.size) (hl : l.length ≤ 1048576) :
    Calls Try.prog 21 #[.agg #[.string ⟨h.toArray⟩, u], .string ⟨n.toArray⟩] w (NumEnd (frs n l) w) := by
  have HB0 := Lib.hid (((Below.refl w.heap.size w).alloc (Nat.le_refl _) (.cells #[.string ⟨h.toArray⟩, u] 45)).alloc (by simp) (.cells #[.string ⟨n.toArray⟩] 9))
  have hsz : (w.alloc (.cells #[.string ⟨h.toArray⟩, u] 45)).heap.size = w.heap.size + 1 := by simp
  have hq : ((w.alloc (.cells #[.string ⟨h.toArray⟩, u] 45)).alloc (.cells #[.string ⟨n.toArray⟩] 9)).cell? ⟨w.heap.size + 1, 0, none⟩ = some (.string ⟨n.toArray⟩) := by rw [← hsz, World.cell?_alloc_new]; rfl
  have hz2 : w.heap.size + 1 < ((w.alloc (.cells #[.string ⟨h.toArray⟩, u] 45)).alloc (.cells #[.string ⟨n.toArray⟩] 9)).heap.size := by simp
  have HE : Hid (Enters 39) := Lib.hid (fun args w => rfl)
  have HX := Lib.hid (fun K (hE : Enters K) (hC : ∀ (et ec ek : List UInt8) (ep : Bool) (au av : Option Addr) (nu cu nv cv : Nat) (W : World), Below ((w.alloc (.cells #[.string ⟨h.toArray⟩, u] 45)).alloc (.cells #[.string ⟨n.toArray⟩] 9)).heap.size ((w.alloc (.cells #[.string ⟨h.toArray⟩, u] 45)).alloc (.cells #[.string ⟨n.toArray⟩] 9)) W → Calls Try.prog K #[.agg #[.string ⟨et.toArray⟩, .string ⟨ec.toArray⟩, .string ⟨ek.toArray⟩, .bool ep, .slice au nu cu, .slice av nv cv], .pointer (some ⟨w.heap.size + 1, 0, none⟩)] W fun e w' => e = .returned (.bool (et == n)) ∧ Below W.heap.size W w') => idx_any K hE (w.heap.size + 1) n u B l ((w.alloc (.cells #[.string ⟨h.toArray⟩, u] 45)).alloc (.cells #[.string ⟨n.toArray⟩] 9)) hC (Rsl.holds_below hu (HB0.out.mono hB)) (Nat.le_trans hB HB0.out.size) hl)
  have HC : Hid (∀ (et ec ek : List UInt8) (ep : Bool) (au av : Option Addr) (nu cu nv cv : Nat) (W : World), Below ((w.alloc (.cells #[.string ⟨h.toArray⟩, u] 45)).alloc (.cells #[.string ⟨n.toArray⟩] 9)).heap.size ((w.alloc (.cells #[.string ⟨h.toArray⟩, u] 45)).alloc (.cells #[.string ⟨n.toArray⟩] 9)) W → Calls Try.prog 39 #[.agg #[.string ⟨et.toArray⟩, .string ⟨ec.toArray⟩, .string ⟨ek.toArray⟩, .bool ep, .slice au nu cu, .slice av nv cv], .pointer (some ⟨w.heap.size + 1, 0, none⟩)] W fun e w' => e = .returned (.bool (et == n)) ∧ Below W.heap.size W w') := Lib.hid (fun et ec ek ep au av nu cu nv cv W hb => clo (w.heap.size + 1) n et ec ek ep au av nu cu nv cv W ((hb.cell (p := ⟨w.heap.size + 1, 0, none⟩) hz2).trans hq))
  unfold NumEnd at HX ⊢
  clear hu hq hz2
  go_enter Try.func21, Try.ntmps21
  go_wp2_with (fail)
  go_at_call 38
  refine (HX.out _ HE.out HC.out).mono ?_
  rintro e w1 ⟨rfl, hb1⟩
  have HB1 := Lib.hid (Base.then_below HB0.out hb1)
  clear hb1
  go_wp2
  go_ret
  exact ⟨rfl, HB1.out⟩
end Go.Proofs.Ytggokmhdmnkoiaa.Org
