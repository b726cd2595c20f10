/-
  CONTRACTS AND PLAIN FACTS, several texts in one; each says in its own words what it proves.
-/
import Derived.Test.YtjjelbijbbnmcaaGreatDoorPartA
import Derived.LoopTactic
import Derived.RegionTactic
import Derived.Deep.RegionWith

/-
  CONTRACT of filterFields at a closure that captures nothing; nothing that was there before is changed.
-/
namespace Go.Proofs.YtjjelbijbbnmcaaGreatDoor.Flds
open Go Go.RowKit
set_option linter.unusedVariables false
set_option maxRecDepth 1000000
set_option maxRecDepth 1000000
/-- What a closure without captures that keeps by 'p' does. -/
def Keeps0 (K : FuncId) (p : Fld → Bool) (w : World) : Prop := ∀ (x y : List UInt8) (wx : World), Below w.heap.size w wx → Calls Tryz.prog K #[.agg #[.string ⟨x.toArray⟩, .string ⟨y.toArray⟩]] wx fun e w' => e = .returned (.bool (p (x, y))) ∧ Below wx.heap.size wx w'

theorem filter0_nil (K : FuncId) (a : Option Addr) (cap : Nat) (w : World) :
    Calls Tryz.prog 77 #[.slice a 0 cap, .func (.func K) #[] #[]] w (FilterEnd [] w) := by
  go_enter Tryz.func77, Tryz.ntmps77
  go_wp2
  go_loop [5, 11] (fun v i => i = .int .i64 0 ∧ v = .slice (some ⟨w.heap.size, 0, none⟩) 0 0) (fun _ i => 0)
  case atStart => exact ⟨rfl, rfl⟩
  case round =>
    obtain ⟨rfl, rfl⟩ := hrel
    go_wp2
    go_ret
    exact ⟨_, rfl, own_lit_nil w, (Below.refl _ _).alloc (Nat.le_refl _) _⟩


set_option maxHeartbeats 1000000 in
theorem filter0_some (K : FuncId) (p : Fld → Bool) (b off cap : Nat) (l : List Fld) (w : World) (hE : Enters K) (hK : Keeps0 K p w) (hc : At w b off l) (h0 : 0 < l.length) (hl : l.length ≤ 1048576) :
    Calls Tryz.prog 77 #[.slice (some ⟨b, off, none⟩) l.length cap, .func (.func K) #[] #[]] w (FilterEnd (l.filter p) w) := by
  obtain ⟨i0, hi, hz0, hz1, hz2⟩ := info_parts info_fld
  have hbl := at_lt hc h0
  have HC := Lib.hid hc
  have HK := Lib.hid hK
  have HO := Lib.hid (own_lit_nil w)
  have HE := Lib.hid hE
  clear hc hK hE
  go_enter Tryz.func77, Tryz.ntmps77
  go_wp2
  go_loopw [5, 11] (fun v i wr => ∃ k : Nat, k ≤ l.length ∧ i = .int .i64 (k : Int) ∧ Own wr w.heap.size v ((l.take k).filter p) ∧ Below w.heap.size w wr) (fun _ i _ => l.length - (intOf i).toNat)
  case atStart => exact ⟨0, Nat.zero_le _, rfl, by rw [List.take_zero]; exact HO.out, (Below.refl _ _).alloc (Nat.le_refl _) _⟩
  case round =>
    clear HO
    obtain ⟨k, hk, rfl, hown, hb⟩ := hrel
    by_cases hlt : k < l.length
    · obtain ⟨c1, c2⟩ := at_below HC.out hb hbl k hlt
      have HM := Lib.hid (filt_more (p := p) hlt)
      generalize hx : l.getD k nofld = f at c1 c2 HM
      clear hx
      obtain ⟨x, y⟩ := f
      unfold sv at c1 c2
      have HB := Lib.hid hb
      have HO := Lib.hid hown
      clear hb hown
      have hws := HB.out.size
      have hwa := alloc_two wr (.string ⟨x.toArray⟩) (.string ⟨y.toArray⟩) 69
      have HKx := Lib.hid (HK.out x y (wr.alloc (.cells #[.string ⟨x.toArray⟩, .string ⟨y.toArray⟩] 69)) (HB.out.alloc HB.out.size _))
      by_cases hp : p (x, y) = true
      · rw [hp] at HKx
        rw [if_pos hp] at HM
        clear hp
        have hL := fcs_len ((l.take k).filter p)
        have HL := Lib.hid (filt_le p l k)
        go_wp2_with (fail)
        rw [HE.out, Oper.upon_enter]
        refine HKx.out.mono ?_
        rintro e w1 ⟨rfl, hb1⟩
        have hg1 := hb1.size
        rw [World.size_alloc] at hg1
        have d1 : w1.cell? ⟨wr.heap.size, 0, none⟩ = some (.string ⟨x.toArray⟩) := (hb1.cell (p := ⟨wr.heap.size, 0, none⟩) (by rw [World.size_alloc]; exact Nat.lt_succ_self _)).trans hwa.1
        have d2 : w1.cell? ⟨wr.heap.size, 1, none⟩ = some (.string ⟨y.toArray⟩) := (hb1.cell (p := ⟨wr.heap.size, 1, none⟩) (by rw [World.size_alloc]; exact Nat.lt_succ_self _)).trans hwa.2
        have hbb : Below wr.heap.size wr w1 := ((Below.refl wr.heap.size wr).alloc (Nat.le_refl _) _).trans (hb1.mono (by rw [World.size_alloc]; omega))
        have hown := own_below HO.out hbb
        have hb := HB.out.trans (hbb.mono HB.out.size)
        clear hb1 hbb
        go_wp2_with (at_builtin; refine wpList_append_own _ rfl (.tmp 18) (.tmp 20) 30 rfl w.heap.size 69 i0 (.agg #[.string ⟨#[]⟩, .string ⟨#[]⟩]) 2 32 Tryz.underlying30 hi hz0 hz1 hz2 rfl (by decide) _ _ _ rfl (hown.alloc _) ⟨w1.heap.size, 0, none⟩ 1 1 [.string ⟨x.toArray⟩, .string ⟨y.toArray⟩] rfl rfl (news_two _ _ _ _) (two_one (x, y)) (by have := HL.out; unfold maxLen; omega) (by have := HL.out; omega) (by have := hb.size; simp; omega) ?_; intro v1 w2 hown1 hg2 _)
        have R := Lib.hid (push_own (f := (x, y)) hown hb (Nat.le_refl _) hown1 hg2)
        clear hown hown1 hg2 hb
        go_wp2
        go_roundw
        case rel => exact ⟨k + 1, by omega, by go_num, by rw [HM.out]; exact R.out.1, R.out.2⟩
        case measure => simp [intOf]; omega
      · have hp' : p (x, y) = false := by simpa using hp
        rw [hp'] at HKx
        rw [if_neg hp] at HM
        clear hp hp'
        go_wp2_with (fail)
        rw [HE.out, Oper.upon_enter]
        refine HKx.out.mono ?_
        rintro e w1 ⟨rfl, hb1⟩
        have hbb : Below wr.heap.size wr w1 := ((Below.refl wr.heap.size wr).alloc (Nat.le_refl _) _).trans (hb1.mono (by rw [World.size_alloc]; omega))
        have HR := Lib.hid (And.intro (own_below HO.out hbb) (HB.out.trans (hbb.mono HB.out.size)))
        clear hb1 hbb
        go_wp2
        go_roundw
        case rel => exact ⟨k + 1, by omega, by go_num, by rw [HM.out]; exact HR.out.1, HR.out.2⟩
        case measure => simp [intOf]; omega
    · have HF : Hid ((l.take k).filter p = l.filter p) := Lib.hid (by rw [List.take_of_length_le (by omega)])
      have HO := Lib.hid (And.intro hown hb)
      clear hown hb
      go_wp2
      go_ret
      exact ⟨_, rfl, by rw [← HF.out]; exact HO.out.1, HO.out.2⟩

theorem filter0_any (K : FuncId) (p : Fld → Bool) (v : Value) (B : Nat) (l : List Fld) (w : World) (hE : Enters K) (hK : Keeps0 K p w) (h : Holds w B v l) (hl : l.length ≤ 1048576) :
    Calls Tryz.prog 77 #[v, .func (.func K) #[] #[]] w (FilterEnd (l.filter p) w) := by
  rcases h with ⟨rfl, a, cap, rfl⟩ | ⟨h0, b, off, cap, rfl, _, _, hc⟩
  · exact filter0_nil K a cap w
  · exact filter0_some K p b off cap l w hE hK hc h0 hl

/-! The closures of GetField and DropField: one captured text. -/
end Go.Proofs.YtjjelbijbbnmcaaGreatDoor.Flds

/-
  CONTRACTS of DropField, the model's and the program's: in new memory, the fields without those with a name; nothing that was there before is changed.
-/
namespace Go.Proofs.YtjjelbijbbnmcaaGreatDoor.Flds
open Go Go.RowKit
set_option linter.unusedVariables false
set_option maxRecDepth 1000000

def keepn (n : List UInt8) (l : List Fld) : List Fld := l.filter (fun f => f.1 != n)
theorem keepn_more {n : List UInt8} {l : List Fld} {k : Nat} (h : k < l.length) : keepn n (l.take (k + 1)) = if (l.getD k nofld).1 = n then keepn n (l.take k) else keepn n (l.take k) ++ [l.getD k nofld] := by
  unfold keepn
  rw [filt_more h]
  by_cases e : (l.getD k nofld).1 = n
  · rw [if_pos e, if_neg (by simpa using e)]
  · rw [if_neg e, if_pos (by simpa using e)]
theorem keepn_le (n : List UInt8) (l : List Fld) : (keepn n l).length ≤ l.length := List.length_filter_le _ _

theorem spec_drop_nil (a : Option Addr) (cap : Nat) (n : List UInt8) (w : World) :
    Calls Tryz.prog 40 #[.slice a 0 cap, .string ⟨n.toArray⟩] w (FilterEnd (keepn n []) w) := by
  go_enter Tryz.func40, Tryz.ntmps40
  go_wp2
  go_loop [5, 6] (fun v i => i = .int .i64 0 ∧ v = .slice (some ⟨w.heap.size, 0, none⟩) 0 0) (fun _ i => 0)
  case atStart => exact ⟨rfl, rfl⟩
  case round =>
    obtain ⟨rfl, rfl⟩ := hrel
    go_wp2
    go_ret
    exact ⟨_, rfl, own_lit_nil w, (Below.refl _ _).alloc (Nat.le_refl _) _⟩

set_option maxHeartbeats 1000000 in
theorem spec_drop_some (b off cap : Nat) (l : List Fld) (n : List UInt8) (w : World) (hc : At w b off l) (h0 : 0 < l.length) (hl : l.length ≤ 1048576) :
    Calls Tryz.prog 40 #[.slice (some ⟨b, off, none⟩) l.length cap, .string ⟨n.toArray⟩] w (FilterEnd (keepn n l) w) := by
  obtain ⟨i0, hi, hz0, hz1, hz2⟩ := info_parts info_fld
  have hbl := at_lt hc h0
  have HC := Lib.hid hc
  have HO := Lib.hid (own_lit_nil w)
  clear hc
  go_enter Tryz.func40, Tryz.ntmps40
  go_wp2
  go_loopw [5, 6] (fun v i wr => ∃ k : Nat, k ≤ l.length ∧ i = .int .i64 (k : Int) ∧ Own wr w.heap.size v (keepn n (l.take k)) ∧ Below w.heap.size w wr) (fun _ i _ => l.length - (intOf i).toNat)
  case atStart => exact ⟨0, Nat.zero_le _, rfl, by rw [List.take_zero]; exact HO.out, (Below.refl _ _).alloc (Nat.le_refl _) _⟩
  case round =>
    clear HO
    obtain ⟨k, hk, rfl, hown, hb⟩ := hrel
    by_cases hlt : k < l.length
    · obtain ⟨c1, c2⟩ := at_below HC.out hb hbl k hlt
      have HM := Lib.hid (keepn_more (n := n) hlt)
      generalize hx : l.getD k nofld = f at c1 c2 HM
      clear hx
      obtain ⟨x, y⟩ := f
      unfold sv at c1 c2
      by_cases hx : x = n
      · subst hx
        go_wp2
        go_roundw
        case rel => exact ⟨k + 1, by omega, by go_num, by rw [HM.out, if_pos rfl]; exact hown, hb⟩
        case measure => simp [intOf]; omega
      · have hq : (x == n) = false := by simpa using hx
        rw [if_neg hx] at HM
        have hL := fcs_len (keepn n (l.take k))
        have HK := Lib.hid (show (keepn n (l.take k)).length ≤ 1048576 by have h1 := keepn_le n (l.take k); have h2 := List.length_take_le' k l; omega)
        clear hx
        go_wp2_with (at_builtin; refine wpList_append_own _ rfl (.tmp 21) (.tmp 26) 30 rfl w.heap.size 69 i0 (.agg #[.string ⟨#[]⟩, .string ⟨#[]⟩]) 2 32 Tryz.underlying30 hi hz0 hz1 hz2 rfl (by decide) _ _ _ rfl (hown.alloc _) ⟨wr.heap.size, 0, none⟩ 1 1 [.string ⟨x.toArray⟩, .string ⟨y.toArray⟩] rfl rfl (news_two _ _ _ _) (two_one (x, y)) (by have := HK.out; unfold maxLen; omega) (by have := HK.out; omega) (by have := hb.size; simp; omega) ?_; intro v1 w1 hown1 hg1 _)
        have R := Lib.hid (push_own (f := (x, y)) hown hb (Nat.le_refl _) hown1 hg1)
        clear hown hown1 hg1 hb
        go_wp2
        go_roundw
        case rel => exact ⟨k + 1, by omega, by go_num, by rw [HM.out]; exact R.out.1, R.out.2⟩
        case measure => simp [intOf]; omega
    · have HE : Hid (keepn n (l.take k) = keepn n l) := Lib.hid (by rw [List.take_of_length_le (by omega)])
      have HO := Lib.hid (And.intro hown hb)
      clear hown hb
      go_wp2
      go_ret
      exact ⟨_, rfl, by rw [← HE.out]; exact HO.out.1, HO.out.2⟩

theorem spec_drop (v : Value) (B : Nat) (l : List Fld) (n : List UInt8) (w : World) (h : Holds w B v l) (hl : l.length ≤ 1048576) :
    Calls Tryz.prog 40 #[v, .string ⟨n.toArray⟩] w (FilterEnd (keepn n l) w) := by
  rcases h with ⟨rfl, a, cap, rfl⟩ | ⟨h0, b, off, cap, rfl, _, _, hc⟩
  · exact spec_drop_nil a cap n w
  · exact spec_drop_some b off cap l n w hc h0 hl

/-! The program's. -/
end Go.Proofs.YtjjelbijbbnmcaaGreatDoor.Flds

/-
  CONTRACT of the laws' comparison of two slices of fields (eqFieldS): where both hold the same fields it returns true; nothing that was there before is changed.
-/
namespace Go.Proofs.YtjjelbijbbnmcaaGreatDoor.Flds
open Go Go.RowKit
set_option linter.unusedVariables false
set_option maxRecDepth 1000000

def Yes (w : World) (e : Ending) (w' : World) : Prop := e = .returned (.bool true) ∧ Below w.heap.size w w'
theorem below_drew {B : Nat} {a w : World} (h : Below B a w) : Below B a w.drew := ⟨h.os, h.tape, h.output, h.size, h.block⟩

theorem eq_one (s t : ByteArray) (w : World) : Calls Tryz.prog 59 #[.agg #[.string s, .string t], .agg #[.string s, .string t]] w (Yes w) := by
  go_enter Tryz.func59, Tryz.ntmps59
  go_wp2
  go_ret
  exact ⟨rfl, ((Below.refl _ _).alloc (Nat.le_refl _) _).alloc (by simp) _⟩

theorem eq_nil (a a' : Option Addr) (cap cap' : Nat) (w : World) :
    Calls Tryz.prog 29 #[.slice a 0 cap, .slice a' 0 cap'] w (Yes w) := by
  go_enter Tryz.func29, Tryz.ntmps29
  go_wp2
  go_loop [5] (fun i => i = .int .i64 0) (fun i => 0)
  case atStart => rfl
  case round =>
    obtain rfl := hrel
    go_wp2
    go_ret
    exact ⟨rfl, Below.refl _ _⟩

set_option maxHeartbeats 1000000 in
theorem eq_some (b off cap b' off' cap' : Nat) (l : List Fld) (w : World) (hc : At w b off l) (hc' : At w b' off' l) (h0 : 0 < l.length) (hl : l.length ≤ 4194304) :
    Calls Tryz.prog 29 #[.slice (some ⟨b, off, none⟩) l.length cap, .slice (some ⟨b', off', none⟩) l.length cap'] w (Yes w) := by
  have hbl := at_lt hc h0
  have hbl' := at_lt hc' h0
  have HC := Lib.hid hc
  have HC' := Lib.hid hc'
  clear hc hc'
  go_enter Tryz.func29, Tryz.ntmps29
  go_wp2
  go_loopw [5] (fun i wr => ∃ k : Nat, k ≤ l.length ∧ i = .int .i64 k ∧ Below w.heap.size w wr) (fun i _ => l.length - (intOf i).toNat)
  case atStart => exact ⟨0, Nat.zero_le _, rfl, Below.refl _ _⟩
  case round =>
    obtain ⟨k, hk, rfl, hb⟩ := hrel
    by_cases hlt : k < l.length
    · have cc := at_below HC.out (below_drew hb) hbl k hlt
      have cc' := at_below HC'.out (below_drew hb) hbl' k hlt
      unfold sv at cc cc'
      obtain ⟨s, hs⟩ : ∃ z : ByteArray, z = ⟨(l.getD k nofld).1.toArray⟩ := ⟨_, rfl⟩
      obtain ⟨t, ht⟩ : ∃ z : ByteArray, z = ⟨(l.getD k nofld).2.toArray⟩ := ⟨_, rfl⟩
      rw [← hs, ← ht] at cc cc'
      clear hs ht
      obtain ⟨c1, c2⟩ := cc
      obtain ⟨c1', c2'⟩ := cc'
      have HB := Lib.hid (below_drew hb)
      clear hb
      go_wp2
      go_region_with (go_at_call 59; refine (eq_one s t wr.drew).mono ?_; rintro e wt ⟨rfl, hb1⟩; have HB1 := Lib.hid (Base.then_below HB.out hb1); clear hb1)
      all_goals go_wp2
      all_goals go_roundw
      all_goals first
        | exact ⟨k + 1, by omega, by go_num, HB1.out⟩
        | (simp [intOf]; omega)
    · go_wp2
      go_ret
      exact ⟨rfl, hb⟩

theorem eq_wide (v v' : Value) (B B' : Nat) (l : List Fld) (w : World) (h : Holds w B v l) (h' : Holds w B' v' l) (hl : l.length ≤ 4194304) :
    Calls Tryz.prog 29 #[v, v'] w (Yes w) := by
  rcases h with ⟨rfl, a, cap, rfl⟩ | ⟨h0, b, off, cap, rfl, _, _, hc⟩
  · rcases h' with ⟨_, a', cap', rfl⟩ | ⟨h0, _⟩
    · exact eq_nil a a' cap cap' w
    · exact absurd h0 (by simp)
  · rcases h' with ⟨rfl, _⟩ | ⟨_, b', off', cap', rfl, _, _, hc'⟩
    · exact absurd h0 (by simp)
    · exact eq_some b off cap b' off' cap' l w hc hc' h0 hl
theorem eq_same (v v' : Value) (B B' : Nat) (l : List Fld) (w : World) (h : Holds w B v l) (h' : Holds w B' v' l) (hl : l.length ≤ 1048576) :
    Calls Tryz.prog 29 #[v, v'] w (Yes w) := eq_wide v v' B B' l w h h' (Nat.le_trans hl (by decide))
end Go.Proofs.YtjjelbijbbnmcaaGreatDoor.Flds

/-
  CONTRACTS of SameFields, the model's and the program's (by slices.Equal): whether the two lists of fields are the same; nothing that was there before is changed.
-/
namespace Go.Proofs.YtjjelbijbbnmcaaGreatDoor.Flds
open Go Go.RowKit
set_option linter.unusedVariables false
set_option maxRecDepth 1000000

theorem take_more_eq {l l' : List Fld} {k : Nat} (h : l.take k = l'.take k) (h1 : k < l.length) (h2 : k < l'.length) (e : l.getD k nofld = l'.getD k nofld) : l.take (k + 1) = l'.take (k + 1) := by
  have e' : l[k] = l'[k] := by simpa [List.getD, h1, h2] using e
  rw [List.take_succ_eq_append_getElem h1, List.take_succ_eq_append_getElem h2, h, e']
theorem ne_of_getD {l l' : List Fld} {k : Nat} (e : l.getD k nofld ≠ l'.getD k nofld) : l ≠ l' := fun h => e (by rw [h])
theorem ret_yes {l l' : List Fld} (h : l = l') : Ending.returned (.bool true) = .returned (.bool (decide (l = l'))) := by rw [decide_eq_true h]
theorem ret_no {l l' : List Fld} (h : l ≠ l') : Ending.returned (.bool false) = .returned (.bool (decide (l = l'))) := by rw [decide_eq_false h]

def SameEnd (l l' : List Fld) (w : World) (e : Ending) (w' : World) : Prop := e = .returned (.bool (decide (l = l'))) ∧ Below w.heap.size w w'

theorem spec_same_nil (a a' : Option Addr) (cap cap' : Nat) (w : World) :
    Calls Tryz.prog 15 #[.slice a 0 cap, .slice a' 0 cap'] w (SameEnd [] [] w) := by
  go_enter Tryz.func15, Tryz.ntmps15
  go_wp2
  go_loop [5] (fun i => i = .int .i64 0) (fun i => 0)
  case atStart => rfl
  case round =>
    obtain rfl := hrel
    go_wp2
    go_ret
    exact ⟨rfl, Below.refl _ _⟩

theorem spec_same_len (a a' : Option Addr) (cap cap' n m : Nat) (l l' : List Fld) (w : World) (hn : n = l.length) (hm : m = l'.length) (hne : n ≠ m) (h1 : n ≤ 1048576) (h2 : m ≤ 1048576) :
    Calls Tryz.prog 15 #[.slice a n cap, .slice a' m cap'] w (SameEnd l l' w) := by
  have HN := Lib.hid (show l ≠ l' from fun h => hne (by rw [hn, hm, h]))
  have hni : ¬ (n : Int) = (m : Int) := by omega
  clear hn hm
  go_enter Tryz.func15, Tryz.ntmps15
  go_wp2
  go_ret
  exact ⟨ret_no HN.out, Below.refl _ _⟩

set_option maxHeartbeats 2000000 in
theorem spec_same_some (b off cap b' off' cap' : Nat) (l l' : List Fld) (n : Nat) (w : World) (hc : At w b off l) (hc' : At w b' off' l') (h0 : 0 < n) (hl : n ≤ 1048576) (hn : l.length = n) (hn' : l'.length = n) :
    Calls Tryz.prog 15 #[.slice (some ⟨b, off, none⟩) n cap, .slice (some ⟨b', off', none⟩) n cap'] w (SameEnd l l' w) := by
  have hbl := at_lt hc (by omega)
  have hbl' := at_lt hc' (by omega)
  have HC := Lib.hid hc
  have HC' := Lib.hid hc'
  have HN := Lib.hid (And.intro hn hn')
  clear hc hc' hn hn'
  go_enter Tryz.func15, Tryz.ntmps15
  go_wp2
  go_loopw [5] (fun i wr => ∃ k : Nat, k ≤ n ∧ i = .int .i64 k ∧ Hid (l.take k = l'.take k) ∧ Below w.heap.size w wr) (fun i _ => n - (intOf i).toNat)
  case atStart => exact ⟨0, Nat.zero_le _, rfl, rfl, Below.refl _ _⟩
  case round =>
    obtain ⟨k, hk, rfl, he, hb⟩ := hrel
    by_cases hlt : k < n
    · obtain ⟨c1, c2⟩ := at_below HC.out hb hbl k (by have := HN.out.1; omega)
      obtain ⟨c1', c2'⟩ := at_below HC'.out hb hbl' k (by have := HN.out.2; omega)
      have HT : Hid (l.getD k nofld = l'.getD k nofld → l.take (k + 1) = l'.take (k + 1)) := Lib.hid (fun e => take_more_eq he.out (by have := HN.out.1; omega) (by have := HN.out.2; omega) e)
      have HF : Hid (l.getD k nofld ≠ l'.getD k nofld → l ≠ l') := Lib.hid (fun e => ne_of_getD e)
      have HB := Lib.hid (below_drew hb)
      clear hb he
      generalize l.getD k nofld = f at c1 c2 HT HF
      generalize l'.getD k nofld = f' at c1' c2' HT HF
      obtain ⟨x, y⟩ := f
      obtain ⟨x', y'⟩ := f'
      unfold sv at c1 c2 c1' c2'
      by_cases e1 : x = x'
      · subst e1
        by_cases e2 : y = y'
        · subst e2
          have HT' := Lib.hid (HT.out rfl)
          clear HT HF
          go_wp2
          all_goals go_region
          all_goals go_wp2
          all_goals go_roundw
          case rel => exact ⟨k + 1, by omega, by go_num, HT'.out, HB.out⟩
          case measure => simp [intOf]; omega
        · have HF' := Lib.hid (HF.out (fun h => e2 (Prod.mk.inj h).2))
          clear HT HF
          go_wp2
          all_goals go_region
          all_goals go_wp2
          all_goals go_ret
          all_goals exact ⟨ret_no HF'.out, HB.out⟩
      · have HF' := Lib.hid (HF.out (fun h => e1 (Prod.mk.inj h).1))
        clear HT HF
        go_wp2
        all_goals go_region
        all_goals go_wp2
        all_goals go_ret
        all_goals exact ⟨ret_no HF'.out, HB.out⟩
    · have HE : Hid (l = l') := Lib.hid (by have h := he.out; have := HN.out; rwa [List.take_of_length_le (by omega), List.take_of_length_le (by omega)] at h)
      have HB := Lib.hid hb
      clear hb he
      go_wp2
      go_ret
      exact ⟨ret_yes HE.out, HB.out⟩

theorem spec_same (v v' : Value) (B B' : Nat) (l l' : List Fld) (w : World) (h : Holds w B v l) (h' : Holds w B' v' l') (h1 : l.length ≤ 1048576) (h2 : l'.length ≤ 1048576) :
    Calls Tryz.prog 15 #[v, v'] w (SameEnd l l' w) := by
  rcases h with ⟨rfl, a, cap, rfl⟩ | ⟨h0, b, off, cap, rfl, _, _, hc⟩
  · rcases h' with ⟨rfl, a', cap', rfl⟩ | ⟨h0, b', off', cap', rfl, _, _, hc'⟩
    · exact spec_same_nil a a' cap cap' w
    · exact spec_same_len _ _ _ _ _ _ _ _ w rfl rfl (by simp; omega) (by simp) h2
  · rcases h' with ⟨rfl, a', cap', rfl⟩ | ⟨h0', b', off', cap', rfl, _, _, hc'⟩
    · exact spec_same_len _ _ _ _ _ _ _ _ w rfl rfl (by show l.length ≠ 0; omega) h1 (by simp)
    · by_cases e : l.length = l'.length
      · rw [← e]; exact spec_same_some b off cap b' off' cap' l l' _ w hc hc' h0 h1 rfl e.symm
      · exact spec_same_len _ _ _ _ _ _ _ _ w rfl rfl e h1 h2

/-! The program's: slices.Equal at fields. -/
end Go.Proofs.YtjjelbijbbnmcaaGreatDoor.Flds
