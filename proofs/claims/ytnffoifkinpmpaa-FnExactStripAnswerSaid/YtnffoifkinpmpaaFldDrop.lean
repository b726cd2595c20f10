/-
  CONTRACTS of DropField, the model's and the program's: in new memory, the fields without those with a name; nothing that was there before is changed.
-/
import Derived.Test.YtnffoifkinpmpaaFldFil
namespace Go.Proofs.Ytnffoifkinpmpaa.Flds
open Go Go.RowKit
set_option linter.unusedVariables false
set_option maxRecDepth 1000000

def keepn (n : List UInt8) (l : List Fld) : List Fld := l.filter (fun f => f.1 != n)
theorem keepn_more {n : List UInt8} {l : List Fld} {k : Nat} (h : k < l.length) : keepn n (l.take (k + 1)) = if (l.getD k nofld).1 = n then keepn n (l.take k) else keepn n (l.take k) ++ [l.getD k nofld] := by
  unfold keepn
  rw [filt_more h]
  by_cases e : (l.getD k nofld).1 = n
  · rw [if_pos e, if_neg (by simpa using e)]
  · rw [if_neg e, if_pos (by simpa using e)]
theorem keepn_le (n : List UInt8) (l : List Fld) : (keepn n l).length ≤ l.length := List.length_filter_le _ _

theorem spec_drop_nil (a : Option Addr) (cap : Nat) (n : List UInt8) (w : World) :
    Calls Try.prog 50 #[.slice a 0 cap, .string ⟨n.toArray⟩] w (FilterEnd (keepn n []) w) := by
  go_enter Try.func50, Try.ntmps50
  go_wp2
  go_loop [5, 6] (fun v i => i = .int .i64 0 ∧ v = .slice (some ⟨w.heap.size, 0, none⟩) 0 0) (fun _ i => 0)
  case atStart => exact ⟨rfl, rfl⟩
  case round =>
    obtain ⟨rfl, rfl⟩ := hrel
    go_wp2
    go_ret
    exact ⟨_, rfl, own_lit_nil w, (Below.refl _ _).alloc (Nat.le_refl _) _⟩

set_option maxHeartbeats 1000000 in
theorem spec_drop_some (b off cap : Nat) (l : List Fld) (n : List UInt8) (w : World) (hc : At w b off l) (h0 : 0 < l.length) (hl : l.length ≤ 1048576) :
    Calls Try.prog 50 #[.slice (some ⟨b, off, none⟩) l.length cap, .string ⟨n.toArray⟩] w (FilterEnd (keepn n l) w) := by
  obtain ⟨i0, hi, hz0, hz1, hz2⟩ := info_parts info_fld
  have hbl := at_lt hc h0
  have HC := Lib.hid hc
  have HO := Lib.hid (own_lit_nil w)
  clear hc
  go_enter Try.func50, Try.ntmps50
  go_wp2
  go_loopw [5, 6] (fun v i wr => ∃ k : Nat, k ≤ l.length ∧ i = .int .i64 (k : Int) ∧ Own wr w.heap.size v (keepn n (l.take k)) ∧ Below w.heap.size w wr) (fun _ i _ => l.length - (intOf i).toNat)
  case atStart => exact ⟨0, Nat.zero_le _, rfl, by rw [List.take_zero]; exact HO.out, (Below.refl _ _).alloc (Nat.le_refl _) _⟩
  case round =>
    clear HO
    obtain ⟨k, hk, rfl, hown, hb⟩ := hrel
    by_cases hlt : k < l.length
    · obtain ⟨c1, c2⟩ := at_below HC.out hb hbl k hlt
      have HM := Lib.hid (keepn_more (n := n) hlt)
      generalize hx : l.getD k nofld = f at c1 c2 HM
      clear hx
      obtain ⟨x, y⟩ := f
      unfold sv at c1 c2
      by_cases hx : x = n
      · subst hx
        go_wp2
        go_roundw
        case rel => exact ⟨k + 1, by omega, by go_num, by rw [HM.out, if_pos rfl]; exact hown, hb⟩
        case measure => simp [intOf]; omega
      · have hq : (x == n) = false := by simpa using hx
        rw [if_neg hx] at HM
        have hL := fcs_len (keepn n (l.take k))
        have HK := Lib.hid (show (keepn n (l.take k)).length ≤ 1048576 by have h1 := keepn_le n (l.take k); have h2 := List.length_take_le' k l; omega)
        clear hx
        go_wp2_with (at_builtin; refine wpList_append_own _ rfl (.tmp 21) (.tmp 26) 40 rfl w.heap.size 112 i0 (.agg #[.string ⟨#[]⟩, .string ⟨#[]⟩]) 2 32 Try.underlying40 hi hz0 hz1 hz2 rfl (by decide) _ _ _ rfl (hown.alloc _) ⟨wr.heap.size, 0, none⟩ 1 1 [.string ⟨x.toArray⟩, .string ⟨y.toArray⟩] rfl rfl (news_two _ _ _ _) (two_one (x, y)) (by have := HK.out; unfold maxLen; omega) (by have := HK.out; omega) (by have := hb.size; simp; omega) ?_; intro v1 w1 hown1 hg1 _)
        have R := Lib.hid (push_own (f := (x, y)) hown hb (Nat.le_refl _) hown1 hg1)
        clear hown hown1 hg1 hb
        go_wp2
        go_roundw
        case rel => exact ⟨k + 1, by omega, by go_num, by rw [HM.out]; exact R.out.1, R.out.2⟩
        case measure => simp [intOf]; omega
    · have HE : Hid (keepn n (l.take k) = keepn n l) := Lib.hid (by rw [List.take_of_length_le (by omega)])
      have HO := Lib.hid (And.intro hown hb)
      clear hown hb
      go_wp2
      go_ret
      exact ⟨_, rfl, by rw [← HE.out]; exact HO.out.1, HO.out.2⟩

theorem spec_drop (v : Value) (B : Nat) (l : List Fld) (n : List UInt8) (w : World) (h : Holds w B v l) (hl : l.length ≤ 1048576) :
    Calls Try.prog 50 #[v, .string ⟨n.toArray⟩] w (FilterEnd (keepn n l) w) := by
  rcases h with ⟨rfl, a, cap, rfl⟩ | ⟨h0, b, off, cap, rfl, _, _, hc⟩
  · exact spec_drop_nil a cap n w
  · exact spec_drop_some b off cap l n w hc h0 hl

/-! The program's. -/
theorem drop_keeps (g : Nat) (n : List UInt8) (w : World) (hc : w.cell? ⟨g, 0, none⟩ = some (.string ⟨n.toArray⟩)) : Keeps 78 (.pointer (some ⟨g, 0, none⟩)) (fun f => f.1 != n) w := by
  intro x y wx hb
  have hg := lt_of_cell hc
  have hgx : g < wx.heap.size := Nat.lt_of_lt_of_le hg hb.size
  have hcx : wx.cell? ⟨g, 0, none⟩ = some (.string ⟨n.toArray⟩) := (hb.cell (p := ⟨g, 0, none⟩) hg).trans hc
  have HB := Lib.hid ((Below.refl wx.heap.size wx).alloc (Nat.le_refl _) (.cells #[.string ⟨x.toArray⟩, .string ⟨y.toArray⟩] 112))
  clear hb hc hg
  by_cases e : x = n
  · subst e
    go_enter Try.func78, Try.ntmps78
    go_wp2
    go_ret
    exact ⟨by simp, HB.out⟩
  · have hq : (x == n) = false := by simpa using e
    go_enter Try.func78, Try.ntmps78
    go_wp2
    go_ret
    exact ⟨by simp [e], HB.out⟩

theorem impl_drop (v : Value) (B : Nat) (l : List Fld) (n : List UInt8) (w : World) (h : Holds w B v l) (hB : B ≤ w.heap.size) (hl : l.length ≤ 1048576) :
    Calls Try.prog 52 #[v, .string ⟨n.toArray⟩] w (FilterEnd (keepn n l) w) := by
  have hmf : ∀ (fn : Fn) (first cap : Array Value) (w : World), (Instr.makeFunc fn first cap).run Try.prog w = .ok (.func fn first cap) w := fun _ _ _ _ => rfl
  have hb2 : Below w.heap.size w (w.alloc (.cells #[.string ⟨n.toArray⟩] 9)) := (Below.refl _ _).alloc (Nat.le_refl _) _
  have hcn : (w.alloc (.cells #[.string ⟨n.toArray⟩] 9)).cell? ⟨w.heap.size, 0, none⟩ = some (.string ⟨n.toArray⟩) := by
    rw [World.cell?_alloc_at _ _ _ _ rfl]; rfl
  have HF := Lib.hid (filter_any 78 (.pointer (some ⟨w.heap.size, 0, none⟩)) (fun f => f.1 != n) v B l _ enters_drop (drop_keeps w.heap.size n _ hcn) (holds_below h (hb2.mono hB)) hl)
  have HL := Lib.hid hb2
  clear hb2 hcn h
  go_enter Try.func52, Try.ntmps52
  go_wp2_with (fail)
  go_at_call 77
  refine HF.out.mono ?_
  rintro e w3 ⟨v3, rfl, hown3, hb3⟩
  have HR := Lib.hid (And.intro (own_mono hown3 (B' := w.heap.size) (by simp)) (HL.out.trans (hb3.mono (by simp))))
  clear hown3 hb3
  go_wp2
  go_ret
  exact ⟨_, rfl, HR.out.1, HR.out.2⟩
end Go.Proofs.Ytnffoifkinpmpaa.Flds
