/-
  WHAT the program's error errNoBytes is in the world; the span that an ask means; CONTRACTS of the program's askedSpan and resolveAsk; nothing that was there before is changed.
-/
import Derived.Test.YtmdmckhlfcogfaaDoorRngIs
import Derived.Test.YtmdmckhlfcogfaaDoorCrFmt
import Derived.Test.YtmdmckhlfcogfaaDoorRec
import Derived.Test.YtmdmckhlfcogfaaDoorKept
import Derived.LoopTactic
import Derived.Outline
import Derived.RegionTactic
import Derived.IntWalk
namespace Go.Proofs.YtmdmckhlfcogfaaDoor.Rng
open Go Go.RowKit
set_option linter.unusedVariables false

/-- The program's error is there: a pointer of the library's own make. -/
def NoB (w : World) (a : Addr) : Prop := 0 < w.heap.size ∧ w.cell? ⟨0, 0, none⟩ = some (.iface 146 (.pointer (some a)))
theorem nob_below {w w' : World} {a : Addr} (h : NoB w a) (hb : Below w.heap.size w w') : NoB w' a :=
  ⟨Nat.lt_of_lt_of_le h.1 hb.size, (hb.cell (p := ⟨0, 0, none⟩) h.1).trans h.2⟩
theorem nob_of_var {P : Program} {w : World} {name : String} {a : Addr} (hg : P.globalNamed name = some 0) (h : w.var? P name = some #[.iface 146 (.pointer (some a))]) : NoB w a := by
  unfold World.var? at h
  rw [hg] at h
  simp only [Option.bind_some] at h
  have hlt : 0 < w.heap.size := by
    rcases Nat.lt_or_ge 0 w.heap.size with h' | h'
    · exact h'
    · rw [Array.getElem?_eq_none h'] at h; simp at h
  refine ⟨hlt, ?_⟩
  unfold World.cell?
  rw [Array.getElem?_eq_getElem hlt] at h ⊢
  simp only [Option.bind_some] at h ⊢
  revert h
  cases w.heap[0] with
  | cells cs ty fz => intro h; simp [Obj.cells] at h ⊢; subst h; rfl
  | _ => intro h; simp at h
theorem nob_head {P : Program} {w : World} {n : String} {d : DataW Unit} : ∀ {l : List (String × DataW Unit)}, laidMet P l w → (n, d) ∈ l → ∃ r, laidMet P ((n, d) :: r) w
  | [], _, hm => by cases hm
  | x :: r, h, hm => by
    rcases List.mem_cons.1 hm with e | e
    · cases e; exact ⟨r, h⟩
    · exact nob_head h.tail e
theorem laid_nob {l : List (String × DataW Unit)} {W : World} (h : laidMet Tryd.prog l W) (h1 : ("loop.example/g03012/impl.errNoBytes", Rows.laid_loop_example_g03012_impl_errNoBytes) ∈ l) : ∃ a, NoB W a := by
  obtain ⟨r1, k1⟩ := nob_head h h1
  have row : ∀ u, Tryd.prog.typeName? 3 u = some "*errors.errorString" → u = 146 :=
    fun u hu => typeName_ptr_named (nm := "errors.errorString") (by kernel_rfl) (by kernel_rfl) (by decide) u hu
  have g1 : Tryd.prog.globalNamed "loop.example/g03012/impl.errNoBytes" = some 0 := by kernel_rfl
  obtain ⟨a1, s1, v1, _⟩ := laid_sentinel k1 g1 (show (Tryd.prog.globals[0]?).map (·.type) = some 50 by kernel_rfl) Tryd.underlying50 row Tryd.underlying146 Tryd.underlying148 rfl rfl Tryd.underlying9 (by kernel_rfl) (by kernel_rfl)
  exact ⟨a1, nob_of_var g1 v1⟩

/-- The span that an ask means. -/
def askd (x y n : Int) : Int × Int :=
  if x < 0 ∧ y < 0 then (0, 0) else if x < 0 ∧ n < y then (0, n) else if x < 0 then (RowKit.wrap64 (n - y), n) else if y < 0 ∨ n ≤ y then (x, n) else (x, RowKit.wrap64 (y + 1))

def AskdEnd (p q : Int) (w : World) (e : Ending) (w' : World) : Prop := e = .returned (.agg #[.int .i64 p, .int .i64 q]) ∧ Below w.heap.size w w'
set_option maxHeartbeats 4000000 in
theorem impl_askd (x y n : Int) (w : World) :
    Calls Tryd.prog 38 #[.agg #[.int .i64 x, .int .i64 y], .int .i64 n] w (AskdEnd (askd x y n).1 (askd x y n).2 w) := by
  by_cases h1 : x < 0
  · by_cases h2 : y < 0
    · have HE := Lib.hid (show askd x y n = (0, 0) by unfold askd; rw [if_pos ⟨h1, h2⟩])
      rw [HE.out]
      go_enter Tryd.func38, Tryd.ntmps38
      go_wp2
      refine bodyPost_ret (v := .agg #[.int .i64 0, .int .i64 0]) (by simp [results, Tryd.results38, go_sem]) rfl ⟨rfl, ((Below.refl _ _).alloc (Nat.le_refl _) _).alloc (by simp) _⟩
    · by_cases h3 : n < y
      · have HE := Lib.hid (show askd x y n = (0, n) by unfold askd; rw [if_neg (fun h => h2 h.2), if_pos ⟨h1, h3⟩])
        rw [HE.out]
        go_enter Tryd.func38, Tryd.ntmps38
        go_wp2
        refine bodyPost_ret (v := .agg #[.int .i64 0, .int .i64 n]) (by simp [results, Tryd.results38, go_sem]) rfl ⟨rfl, ((Below.refl _ _).alloc (Nat.le_refl _) _).alloc (by simp) _⟩
      · have HE := Lib.hid (show askd x y n = (RowKit.wrap64 (n - y), n) by unfold askd; rw [if_neg (fun h => h2 h.2), if_neg (fun h => h3 h.2), if_pos h1])
        rw [HE.out]
        go_enter Tryd.func38, Tryd.ntmps38
        go_wp2
        refine bodyPost_ret (v := .agg #[.int .i64 (RowKit.wrap64 (n - y)), .int .i64 n]) (by simp [results, Tryd.results38, go_sem]) rfl ⟨rfl, ((Below.refl _ _).alloc (Nat.le_refl _) _).alloc (by simp) _⟩
  · by_cases h2 : y < 0
    · have HE := Lib.hid (show askd x y n = (x, n) by unfold askd; rw [if_neg (fun h => h1 h.1), if_neg (fun h => h1 h.1), if_neg h1, if_pos (Or.inl h2)])
      rw [HE.out]
      go_enter Tryd.func38, Tryd.ntmps38
      go_wp2
      refine bodyPost_ret (v := .agg #[.int .i64 x, .int .i64 n]) (by simp [results, Tryd.results38, go_sem]) rfl ⟨rfl, ((Below.refl _ _).alloc (Nat.le_refl _) _).alloc (by simp) _⟩
    · by_cases h3 : n ≤ y
      · have HE := Lib.hid (show askd x y n = (x, n) by unfold askd; rw [if_neg (fun h => h1 h.1), if_neg (fun h => h1 h.1), if_neg h1, if_pos (Or.inr h3)])
        rw [HE.out]
        go_enter Tryd.func38, Tryd.ntmps38
        go_wp2
        refine bodyPost_ret (v := .agg #[.int .i64 x, .int .i64 n]) (by simp [results, Tryd.results38, go_sem]) rfl ⟨rfl, ((Below.refl _ _).alloc (Nat.le_refl _) _).alloc (by simp) _⟩
      · have HE := Lib.hid (show askd x y n = (x, RowKit.wrap64 (y + 1)) by unfold askd; rw [if_neg (fun h => h1 h.1), if_neg (fun h => h1 h.1), if_neg h1, if_neg (by rintro (h | h); exact h2 h; exact h3 h)])
        rw [HE.out]
        go_enter Tryd.func38, Tryd.ntmps38
        go_wp2
        refine bodyPost_ret (v := .agg #[.int .i64 x, .int .i64 (RowKit.wrap64 (y + 1))]) (by simp [results, Tryd.results38, go_sem]) rfl ⟨rfl, ((Below.refl _ _).alloc (Nat.le_refl _) _).alloc (by simp) _⟩

def RskEnd (x y n : Int) (a : Addr) (w : World) (e : Ending) (w' : World) : Prop :=
  e = .returned (if (askd x y n).1 < (askd x y n).2 then .tuple #[.agg #[.int .i64 (askd x y n).1, .int .i64 (askd x y n).2], .nilIface] else .tuple #[.agg #[.int .i64 0, .int .i64 0], .iface 146 (.pointer (some a))]) ∧ Below w.heap.size w w'
set_option maxHeartbeats 4000000 in
theorem impl_rsk (x y n : Int) (a : Addr) (w : World) (hn : NoB w a) :
    Calls Tryd.prog 28 #[.agg #[.int .i64 x, .int .i64 y], .int .i64 n] w (RskEnd x y n a w) := by
  have hv0 : 0 < w.heap.size := hn.1
  have HN := Lib.hid hn
  have HAS := Lib.hid (fun W => impl_askd x y n W)
  unfold AskdEnd at HAS
  unfold RskEnd
  generalize askd x y n = r at HAS ⊢
  obtain ⟨p, q⟩ := r
  dsimp only at HAS ⊢
  have HHB := Lib.hid (fun W => Crf.has_bytes p q W)
  clear hn
  by_cases hpq : p < q
  · rw [if_pos hpq]
    have hd : decide (p < q) = true := by simpa using hpq
    rw [hd] at HHB
    clear hd hpq hv0 HN
    go_enter Tryd.func28, Tryd.ntmps28
    go_wp2_with (fail)
    go_at_call 38
    refine (HAS.out _).mono ?_
    rintro e w1 ⟨rfl, hb1⟩
    have hq := (Kept.two hb1).1
    have hf := (Kept.two hb1).2
    have HB := Lib.hid (Kept.below_in (Kept.below_in hb1))
    have HS : Hid (w.heap.size + 1 < w1.heap.size) := Lib.hid (by have := hb1.size; simp at this; omega)
    have Q0 := Lib.hid (hq 0 _ rfl)
    have Q1 := Lib.hid (hq 1 _ rfl)
    have F0 := Lib.hid (hf 0)
    have F1 := Lib.hid (hf 1)
    clear hb1 hq hf
    go_wp2_with (fail)
    go_at_call 39
    refine (HHB.out _).mono ?_
    rintro e w2 ⟨rfl, hb2⟩
    have r0 := (Kept.one hb2).1 0 _ rfl
    have r1 := (Kept.one hb2).1 1 _ rfl
    have HB2 := Lib.hid (Base.then_below HB.out (Kept.below_in hb2))
    have q0 := ((Kept.below_in hb2).cell (p := ⟨w.heap.size + 1, 0, none⟩) HS.out).trans Q0.out
    have q1 := ((Kept.below_in hb2).cell (p := ⟨w.heap.size + 1, 1, none⟩) HS.out).trans Q1.out
    have f0 := ((Kept.below_in hb2).frozen (p := ⟨w.heap.size + 1, 0, none⟩) HS.out).trans F0.out
    have f1 := ((Kept.below_in hb2).frozen (p := ⟨w.heap.size + 1, 1, none⟩) HS.out).trans F1.out
    clear hb2
    go_wp2
    refine bodyPost_ret (v := .tuple #[.agg #[.int .i64 p, .int .i64 q], .nilIface]) (by simp [results, Tryd.results28, go_sem, q0, q1]) rfl ⟨rfl, ?_⟩
    exact (HB2.out.setCell (by show w.heap.size ≤ w.heap.size + 1; omega) _).setCell (by show w.heap.size ≤ w.heap.size + 1; omega) _
  · rw [if_neg hpq]
    have hd : decide (p < q) = false := by simpa using hpq
    rw [hd] at HHB
    clear hd hpq
    go_enter Tryd.func28, Tryd.ntmps28
    go_wp2_with (fail)
    go_at_call 38
    refine (HAS.out _).mono ?_
    rintro e w1 ⟨rfl, hb1⟩
    have hq := (Kept.two hb1).1
    have hf := (Kept.two hb1).2
    have HB := Lib.hid (Kept.below_in (Kept.below_in hb1))
    have HS : Hid (w.heap.size + 1 < w1.heap.size) := Lib.hid (by have := hb1.size; simp at this; omega)
    have Q0 := Lib.hid (hq 0 _ rfl)
    have Q1 := Lib.hid (hq 1 _ rfl)
    have F0 := Lib.hid (hf 0)
    have F1 := Lib.hid (hf 1)
    clear hb1 hq hf
    go_wp2_with (fail)
    go_at_call 39
    refine (HHB.out _).mono ?_
    rintro e w2 ⟨rfl, hb2⟩
    have r0 := (Kept.one hb2).1 0 _ rfl
    have r1 := (Kept.one hb2).1 1 _ rfl
    have HB2 := Lib.hid (Base.then_below HB.out (Kept.below_in hb2))
    have q0 := ((Kept.below_in hb2).cell (p := ⟨w.heap.size + 1, 0, none⟩) HS.out).trans Q0.out
    have q1 := ((Kept.below_in hb2).cell (p := ⟨w.heap.size + 1, 1, none⟩) HS.out).trans Q1.out
    have f0 := ((Kept.below_in hb2).frozen (p := ⟨w.heap.size + 1, 0, none⟩) HS.out).trans F0.out
    have f1 := ((Kept.below_in hb2).frozen (p := ⟨w.heap.size + 1, 1, none⟩) HS.out).trans F1.out
    have HN := Lib.hid (nob_below HN.out HB2.out)
    have hcd : w2.drew.cell? ⟨0, 0, none⟩ = some (.iface 146 (.pointer (some a))) := HN.out.2
    have hce : w2.cell? ⟨0, 0, none⟩ = some (.iface 146 (.pointer (some a))) := HN.out.2
    have hne : 0 < w.heap.size + 1 := by omega
    clear hb2 hv0
    go_wp2
    go_region
    all_goals go_wp2
    all_goals refine bodyPost_ret (v := .tuple #[.agg #[.int .i64 0, .int .i64 0], .iface 146 (.pointer (some a))]) (by simp [results, Tryd.results28, go_sem, q0, q1]) rfl ⟨rfl, ?_⟩
    all_goals exact Rec.below_drew ((HB2.out.setCell (by show w.heap.size ≤ w.heap.size + 1; omega) _).setCell (by show w.heap.size ≤ w.heap.size + 1; omega) _)
end Go.Proofs.YtmdmckhlfcogfaaDoor.Rng
