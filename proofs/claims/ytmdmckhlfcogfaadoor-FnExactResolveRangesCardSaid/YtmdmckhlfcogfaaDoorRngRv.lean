/-
  CONTRACTS of ResolveRanges, the program's: the spans that the asks mean, without those that have nothing, in memory of their own; nothing that was there before is changed.
-/
import Derived.Test.YtmdmckhlfcogfaaDoorRngRk
import Derived.Test.YtmdmckhlfcogfaaDoorAsks
import Derived.Test.YtmdmckhlfcogfaaDoorSpn
import Derived.Test.YtmdmckhlfcogfaaDoorKept
import Derived.LoopTactic
import Derived.Outline
namespace Go.Proofs.YtmdmckhlfcogfaaDoor.Rng
open Go Go.RowKit
set_option linter.unusedVariables false

def rs1 (n : Int) (f : Asks.T) : List Spn.T := if (askd f.1 f.2 n).1 < (askd f.1 f.2 n).2 then [askd f.1 f.2 n] else []
def rsv (l : List Asks.T) (n : Int) : List Spn.T := l.flatMap (rs1 n)
theorem rsv_more {l : List Asks.T} {n : Int} {k : Nat} (h : k < l.length) : rsv (l.take (k + 1)) n = rsv (l.take k) n ++ rs1 n (l.getD k Asks.nov) := by
  unfold rsv; rw [List.take_succ_eq_append_getElem h, List.flatMap_append]; simp [List.getD, h]
theorem rs1_len (n : Int) (f : Asks.T) : (rs1 n f).length ≤ 1 := by unfold rs1; split <;> simp
theorem rsv_len (l : List Asks.T) (n : Int) : (rsv l n).length ≤ l.length := by
  unfold rsv
  induction l with
  | nil => simp
  | cons a r ih => rw [List.flatMap_cons, List.length_append, List.length_cons]; have := rs1_len n a; omega
theorem rsv_all {l : List Asks.T} {n : Int} {k : Nat} (h : ¬ k < l.length) : rsv (l.take k) n = rsv l n := by rw [List.take_of_length_le (by omega)]
def RsvEnd (l : List Asks.T) (n : Int) (w : World) (e : Ending) (w' : World) : Prop := ∃ v, e = .returned v ∧ Spn.Own w' w.heap.size v (rsv l n) ∧ Below w.heap.size w w'
theorem ashape {w : World} {B : Nat} {v : Value} {l : List Asks.T} (h : Asks.Holds w B v l) : ∃ a cap, v = .slice a l.length cap ∧ (0 < l.length → ∃ b off, a = some ⟨b, off, none⟩ ∧ b < B ∧ Asks.At w b off l) := by
  rcases h with ⟨rfl, a, cap, rfl⟩ | ⟨_, b, off, cap, rfl, hb, _, hc⟩
  · exact ⟨a, cap, rfl, fun h => absurd h (by simp)⟩
  · exact ⟨_, cap, rfl, fun _ => ⟨b, off, rfl, hb, hc⟩⟩

set_option maxRecDepth 100000 in
set_option maxHeartbeats 4000000 in
theorem impl_rsv (v : Value) (B : Nat) (l : List Asks.T) (n : Int) (ea : Addr) (w : World) (h : Asks.Holds w B v l) (hB : B ≤ w.heap.size) (hll : l.length ≤ 1048576) (hn : NoB w ea) :
    Calls Tryd.prog 12 #[v, .int .i64 n] w (RsvEnd l n w) := by
  obtain ⟨i0, hi, hz0, hz1, hz2⟩ := info_parts Spn.info_r
  obtain ⟨a, cap, rfl, ha⟩ := ashape h
  have HA := Lib.hid ha
  have HO1 := Lib.hid (Spn.own_lit_nil w)
  have HN := Lib.hid hn
  clear ha h hn
  unfold RsvEnd
  go_enter Tryd.func12, Tryd.ntmps12
  go_wp2
  go_loopw [5, 13] (fun u i wr => ∃ k : Nat, k ≤ l.length ∧ i = .int .i64 (k : Int) ∧ wr.ownsRow w.heap.size 47 2 u (rsv (l.take k) n).length (Spn.fcs (rsv (l.take k) n)) ∧ Below w.heap.size w wr) (fun _ i _ => l.length - (intOf i).toNat)
  case atStart => exact ⟨0, Nat.zero_le _, rfl, HO1.out, (Below.refl _ _).alloc (Nat.le_refl _) _⟩
  case round =>
    clear HO1
    obtain ⟨k, hk, rfl, hown, hb⟩ := hrel
    have HB := Lib.hid hb
    have HML : Hid ((rsv (l.take k) n).length ≤ 1048576) := Lib.hid (by have h1 := rsv_len (l.take k) n; rw [List.length_take] at h1; omega)
    have hbs := hb.size
    by_cases hlt : k < l.length
    · obtain ⟨b, off, rfl, hbw, hc⟩ := HA.out (by omega)
      have HM := Lib.hid (rsv_more (n := n) hlt)
      obtain ⟨c0, c1⟩ := Asks.at_cells (Asks.at_below hc hb (Nat.lt_of_lt_of_le hbw hB)) hlt
      clear hb hc
      generalize l.getD k Asks.nov = f at c0 c1 HM
      obtain ⟨x, y⟩ := f
      dsimp only at c0 c1
      generalize rsv (l.take k) n = m at hown HM HML
      have HSP := Lib.hid (fun W hW => impl_rsk x y n ea W hW)
      unfold RskEnd at HSP
      unfold rs1 at HM
      dsimp only at HM
      have hL := Spn.fcs_len m
      have HOA := Lib.hid (hown.alloc (.cells #[.int .i64 x, .int .i64 y] 40))
      have HBA := Lib.hid (HB.out.alloc HB.out.size (.cells #[.int .i64 x, .int .i64 y] 40))
      have HNA := Lib.hid (nob_below HN.out HBA.out)
      have hki : (k : Int) < (l.length : Int) := by omega
      clear hown
      generalize askd x y n = r at HSP HM
      obtain ⟨p, q⟩ := r
      dsimp only at HSP HM
      by_cases hpq : p < q
      · rw [if_pos hpq] at HSP HM
        clear hpq
        go_wp2_with (fail)
        go_at_call 28
        refine (HSP.out _ HNA.out).mono ?_
        rintro e w1 ⟨rfl, hb1⟩
        have HO1 := Lib.hid ((Spn.row_below HOA.out hb1).alloc (.cells #[.int .i64 p, .int .i64 q] 47))
        have HB1 : Hid (Below w.heap.size w (w1.alloc (.cells #[.int .i64 p, .int .i64 q] 47))) := Lib.hid (by have h9 := Base.then_below HBA.out hb1; exact h9.alloc h9.size _)
        have HN1 := Lib.hid (nob_below HN.out HB1.out)
        have hcd := HN1.out.2
        have hbs1 := HB1.out.size
        have HNW := Lib.hid (Rec.news (w1.alloc (.cells #[.int .i64 p, .int .i64 q] 47)) [.int .i64 p, .int .i64 q] 47)
        clear hb1 HOA HBA HNA HSP
        go_wp2_with (fail)
        go_at_call 29
        refine (is_nil _ _).mono ?_
        rintro e w2 ⟨rfl, hw2⟩
        rw [hw2]
        clear hw2
        go_wp2_with (at_builtin; go_loud (refine wpList_append_own _ rfl (.tmp 26) (.tmp 28) 29 rfl w.heap.size 47 i0 (.agg #[.int .i64 0, .int .i64 0]) 2 16 Tryd.underlying29 hi hz0 hz1 hz2 rfl (by decide) _ _ _ rfl (HO1.out.alloc _) ⟨w1.heap.size + 1, 0, none⟩ 1 1 [.int .i64 p, .int .i64 q] rfl rfl (by have h := HNW.out; rw [World.size_alloc] at h; exact h) (Spn.cs_one (p, q)) (by have := HML.out; unfold maxLen; omega) (by have := HML.out; omega) (by have := HB1.out.size; simp at this ⊢; omega) ?_; intro v1 w2 hown1 hg1 _))
        have R := Lib.hid (Spn.push_own (f := (p, q)) HO1.out HB1.out (Nat.le_refl _) hown1 hg1)
        clear hown1 hg1
        go_wp2
        go_roundw
        case rel => exact ⟨k + 1, by omega, by go_num, by rw [HM.out]; exact R.out.1, R.out.2⟩
        case measure => simp [intOf]; omega
      · rw [if_neg hpq] at HSP HM
        clear hpq
        go_wp2_with (fail)
        go_at_call 28
        refine (HSP.out _ HNA.out).mono ?_
        rintro e w1 ⟨rfl, hb1⟩
        have HO1 := Lib.hid ((Spn.row_below HOA.out hb1).alloc (.cells #[.int .i64 0, .int .i64 0] 47))
        have HB1 : Hid (Below w.heap.size w (w1.alloc (.cells #[.int .i64 0, .int .i64 0] 47))) := Lib.hid (by have h9 := Base.then_below HBA.out hb1; exact h9.alloc h9.size _)
        have HN1 := Lib.hid (nob_below HN.out HB1.out)
        have hcd := HN1.out.2
        have hbs1 := HB1.out.size
        clear hb1 HOA HBA HNA HSP
        go_wp2_with (fail)
        go_at_call 29
        refine (is_same _ _).mono ?_
        rintro e w2 ⟨rfl, hw2⟩
        rw [hw2]
        clear hw2
        rw [List.append_nil] at HM
        go_wp2
        go_roundw
        case rel => exact ⟨k + 1, by omega, by go_num, by rw [HM.out]; exact HO1.out, HB1.out⟩
        case measure => simp [intOf]; omega
    · have HE := Lib.hid (rsv_all (n := n) hlt)
      rw [HE.out] at hown
      have HO := Lib.hid hown
      clear hown hb
      go_wp2
      go_ret
      exact ⟨_, rfl, HO.out, HB.out⟩
end Go.Proofs.YtmdmckhlfcogfaaDoor.Rng
