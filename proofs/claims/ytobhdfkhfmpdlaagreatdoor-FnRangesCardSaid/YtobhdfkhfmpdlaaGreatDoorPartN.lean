/-
  CONTRACTS AND PLAIN FACTS, several texts in one; each says in its own words what it proves.
-/
import Derived.Test.YtobhdfkhfmpdlaaGreatDoorPartM
import Derived.Test.YtobhdfkhfmpdlaaGreatDoorPartH
import Derived.Test.YtobhdfkhfmpdlaaGreatDoorPartG
import Derived.LoopTactic
import Derived.Outline
import Derived.Test.YtobhdfkhfmpdlaaGreatDoorPartL
set_option linter.unusedSimpArgs false
set_option linter.unusedVariables false

/-
  CONTRACTS of ResolveRanges, the program's: the spans that the asks mean, without those that have nothing, in memory of their own; nothing that was there before is changed.
-/
namespace Go.Proofs.YtobhdfkhfmpdlaaGreatDoor.Rng
open Go Go.RowKit
set_option linter.unusedVariables false
set_option maxRecDepth 1000000

def rs1 (n : Int) (f : Asks.T) : List Spn.T := if (askd f.1 f.2 n).1 < (askd f.1 f.2 n).2 then [askd f.1 f.2 n] else []
def rsv (l : List Asks.T) (n : Int) : List Spn.T := l.flatMap (rs1 n)
theorem rsv_more {l : List Asks.T} {n : Int} {k : Nat} (h : k < l.length) : rsv (l.take (k + 1)) n = rsv (l.take k) n ++ rs1 n (l.getD k Asks.nov) := by
  unfold rsv; rw [List.take_succ_eq_append_getElem h, List.flatMap_append]; simp [List.getD, h]
theorem rs1_len (n : Int) (f : Asks.T) : (rs1 n f).length ≤ 1 := by unfold rs1; split <;> simp
theorem rsv_len (l : List Asks.T) (n : Int) : (rsv l n).length ≤ l.length := by
  unfold rsv
  induction l with
  | nil => simp
  | cons a r ih => rw [List.flatMap_cons, List.length_append, List.length_cons]; have := rs1_len n a; omega
theorem rsv_all {l : List Asks.T} {n : Int} {k : Nat} (h : ¬ k < l.length) : rsv (l.take k) n = rsv l n := by rw [List.take_of_length_le (by omega)]
def RsvEnd (l : List Asks.T) (n : Int) (w : World) (e : Ending) (w' : World) : Prop := ∃ v, e = .returned v ∧ Spn.Own w' w.heap.size v (rsv l n) ∧ Below w.heap.size w w'
theorem ashape {w : World} {B : Nat} {v : Value} {l : List Asks.T} (h : Asks.Holds w B v l) : ∃ a cap, v = .slice a l.length cap ∧ (0 < l.length → ∃ b off, a = some ⟨b, off, none⟩ ∧ b < B ∧ Asks.At w b off l) := by
  rcases h with ⟨rfl, a, cap, rfl⟩ | ⟨_, b, off, cap, rfl, hb, _, hc⟩
  · exact ⟨a, cap, rfl, fun h => absurd h (by simp)⟩
  · exact ⟨_, cap, rfl, fun _ => ⟨b, off, rfl, hb, hc⟩⟩

set_option maxRecDepth 1000000 in
set_option maxHeartbeats 4000000 in
theorem impl_rsv (v : Value) (B : Nat) (l : List Asks.T) (n : Int) (ea : Addr) (w : World) (h : Asks.Holds w B v l) (hB : B ≤ w.heap.size) (hll : l.length ≤ 1048576) (hn : NoB w ea) :
    Calls Tryz.prog 10 #[v, .int .i64 n] w (RsvEnd l n w) := by
  obtain ⟨i0, hi, hz0, hz1, hz2⟩ := info_parts Spn.info_r
  obtain ⟨a, cap, rfl, ha⟩ := ashape h
  have HA := Lib.hid ha
  have HO1 := Lib.hid (Spn.own_lit_nil w)
  have HN := Lib.hid hn
  clear ha h hn
  unfold RsvEnd
  go_enter Tryz.func10, Tryz.ntmps10
  go_wp2
  go_loopw [5, 13] (fun u i wr => ∃ k : Nat, k ≤ l.length ∧ i = .int .i64 (k : Int) ∧ wr.ownsRow w.heap.size 35 2 u (rsv (l.take k) n).length (Spn.fcs (rsv (l.take k) n)) ∧ Below w.heap.size w wr) (fun _ i _ => l.length - (intOf i).toNat)
  case atStart => exact ⟨0, Nat.zero_le _, rfl, HO1.out, (Below.refl _ _).alloc (Nat.le_refl _) _⟩
  case round =>
    clear HO1
    obtain ⟨k, hk, rfl, hown, hb⟩ := hrel
    have HB := Lib.hid hb
    have HML : Hid ((rsv (l.take k) n).length ≤ 1048576) := Lib.hid (by have h1 := rsv_len (l.take k) n; rw [List.length_take] at h1; omega)
    have hbs := hb.size
    by_cases hlt : k < l.length
    · obtain ⟨b, off, rfl, hbw, hc⟩ := HA.out (by omega)
      have HM := Lib.hid (rsv_more (n := n) hlt)
      obtain ⟨c0, c1⟩ := Asks.at_cells (Asks.at_below hc hb (Nat.lt_of_lt_of_le hbw hB)) hlt
      clear hb hc
      generalize l.getD k Asks.nov = f at c0 c1 HM
      obtain ⟨x, y⟩ := f
      dsimp only at c0 c1
      generalize rsv (l.take k) n = m at hown HM HML
      have HSP := Lib.hid (fun W hW => impl_rsk x y n ea W hW)
      unfold RskEnd at HSP
      unfold rs1 at HM
      dsimp only at HM
      have hL := Spn.fcs_len m
      have HOA := Lib.hid (hown.alloc (.cells #[.int .i64 x, .int .i64 y] 30))
      have HBA := Lib.hid (HB.out.alloc HB.out.size (.cells #[.int .i64 x, .int .i64 y] 30))
      have HNA := Lib.hid (nob_below HN.out HBA.out)
      have hki : (k : Int) < (l.length : Int) := by omega
      clear hown
      generalize askd x y n = r at HSP HM
      obtain ⟨p, q⟩ := r
      dsimp only at HSP HM
      by_cases hpq : p < q
      · rw [if_pos hpq] at HSP HM
        clear hpq
        go_wp2_with (fail)
        go_at_call 28
        refine (HSP.out _ HNA.out).mono ?_
        rintro e w1 ⟨rfl, hb1⟩
        have HO1 := Lib.hid ((Spn.row_below HOA.out hb1).alloc (.cells #[.int .i64 p, .int .i64 q] 35))
        have HB1 : Hid (Below w.heap.size w (w1.alloc (.cells #[.int .i64 p, .int .i64 q] 35))) := Lib.hid (by have h9 := Base.then_below HBA.out hb1; exact h9.alloc h9.size _)
        have HN1 := Lib.hid (nob_below HN.out HB1.out)
        have hcd := HN1.out.2
        have hbs1 := HB1.out.size
        have HNW := Lib.hid (Rec.news (w1.alloc (.cells #[.int .i64 p, .int .i64 q] 35)) [.int .i64 p, .int .i64 q] 35)
        clear hb1 HOA HBA HNA HSP
        go_wp2_with (fail)
        go_at_call 29
        refine (is_nil _ _).mono ?_
        rintro e w2 ⟨rfl, hw2⟩
        rw [hw2]
        clear hw2
        go_wp2_with (at_builtin; go_loud (refine wpList_append_own _ rfl (.tmp 26) (.tmp 28) 33 rfl w.heap.size 35 i0 (.agg #[.int .i64 0, .int .i64 0]) 2 16 Tryz.underlying33 hi hz0 hz1 hz2 rfl (by decide) _ _ _ rfl (HO1.out.alloc _) ⟨w1.heap.size + 1, 0, none⟩ 1 1 [.int .i64 p, .int .i64 q] rfl rfl (by have h := HNW.out; rw [World.size_alloc] at h; exact h) (Spn.cs_one (p, q)) (by have := HML.out; unfold maxLen; omega) (by have := HML.out; omega) (by have := HB1.out.size; simp at this ⊢; omega) ?_; intro v1 w2 hown1 hg1 _))
        have R := Lib.hid (Spn.push_own (f := (p, q)) HO1.out HB1.out (Nat.le_refl _) hown1 hg1)
        clear hown1 hg1
        go_wp2
        go_roundw
        case rel => exact ⟨k + 1, by omega, by go_num, by rw [HM.out]; exact R.out.1, R.out.2⟩
        case measure => simp [intOf]; omega
      · rw [if_neg hpq] at HSP HM
        clear hpq
        go_wp2_with (fail)
        go_at_call 28
        refine (HSP.out _ HNA.out).mono ?_
        rintro e w1 ⟨rfl, hb1⟩
        have HO1 := Lib.hid ((Spn.row_below HOA.out hb1).alloc (.cells #[.int .i64 0, .int .i64 0] 35))
        have HB1 : Hid (Below w.heap.size w (w1.alloc (.cells #[.int .i64 0, .int .i64 0] 35))) := Lib.hid (by have h9 := Base.then_below HBA.out hb1; exact h9.alloc h9.size _)
        have HN1 := Lib.hid (nob_below HN.out HB1.out)
        have hcd := HN1.out.2
        have hbs1 := HB1.out.size
        clear hb1 HOA HBA HNA HSP
        go_wp2_with (fail)
        go_at_call 29
        refine (is_same _ _).mono ?_
        rintro e w2 ⟨rfl, hw2⟩
        rw [hw2]
        clear hw2
        rw [List.append_nil] at HM
        go_wp2
        go_roundw
        case rel => exact ⟨k + 1, by omega, by go_num, by rw [HM.out]; exact HO1.out, HB1.out⟩
        case measure => simp [intOf]; omega
    · have HE := Lib.hid (rsv_all (n := n) hlt)
      rw [HE.out] at hown
      have HO := Lib.hid hown
      clear hown hb
      go_wp2
      go_ret
      exact ⟨_, rfl, HO.out, HB.out⟩
end Go.Proofs.YtobhdfkhfmpdlaaGreatDoor.Rng

/-
  PLAIN FACTS: ranges that were read are read back from what is written of them; a span that an ask means lies in its page, and is read back with the page's length.
-/
namespace Go.Proofs.YtobhdfkhfmpdlaaGreatDoor.Rlw
open Go Go.RowKit Rng
set_option linter.unusedVariables false
set_option maxRecDepth 1000000

/-- A digit or '-'. -/
def ac (c : UInt8) : Bool := c == 45 || decide (48 ≤ c.toNat ∧ c.toNat ≤ 57)
theorem ac_solid {c : UInt8} (h : ac c = true) : c ≠ 34 ∧ c ≠ 44 ∧ c ≠ 47 ∧ Tx.blk c = false := by
  have hh : ∀ n : Fin 256, (!ac (UInt8.ofNat n.1) || (UInt8.ofNat n.1 != 34 && UInt8.ofNat n.1 != 44 && UInt8.ofNat n.1 != 47 && !Tx.blk (UInt8.ofNat n.1))) = true := by decide +kernel
  have e : UInt8.ofNat c.toNat = c := by simp
  have h1 := hh ⟨c.toNat, c.toNat_lt⟩
  rw [e, h] at h1
  simpa [and_assoc] using h1
theorem scan_ac : ∀ (x : List UInt8), (∀ c ∈ x, ac c = true) → Tx.scan false x = some false
  | [], _ => Tx.scan_nil false
  | c :: x, h => by
    obtain ⟨h1, h2, _, _⟩ := ac_solid (h c (by simp))
    rw [Tx.scan_cons]
    simp only [Bool.false_and, Bool.not_false, Bool.true_and, Bool.false_eq_true, if_false, beq_iff_eq, h1, h2]
    exact scan_ac x (fun d hd => h d (by simp [hd]))
theorem trim_ac {x : List UInt8} (h : ∀ c ∈ x, ac c = true) : Tx.trim x = x :=
  Tx.trim_of_ok (fun c t e => (ac_solid (h c (by rw [e]; simp))).2.2.2) (fun c t e => (ac_solid (h c (by rw [e]; simp))).2.2.2)
theorem it_dig {n : Int} (h : 0 ≤ n) : ∀ c ∈ Lib.itoa n, 48 ≤ c.toNat ∧ c.toNat ≤ 57 := by
  intro c hc; rw [Par.itoa_nat h] at hc; exact Par.dec_dig _ c hc
theorem it_ac {n : Int} (h : 0 ≤ n) : ∀ c ∈ Lib.itoa n, ac c = true := fun c hc => by
  have := it_dig h c hc; unfold ac; simp [this]
theorem it_45 {n : Int} (h : 0 ≤ n) : ∀ c ∈ Lib.itoa n, c ≠ 45 := fun c hc e => by
  have := it_dig h c hc; subst e; exact absurd this.1 (by decide)
theorem it_ne {n : Int} (h : 0 ≤ n) : Lib.itoa n ≠ [] := by
  intro e
  rw [Par.itoa_nat h, Lib.decDigits] at e
  split at e <;> simp at e
theorem pin_it {n : Int} (h0 : 0 ≤ n) (h1 : n ≤ 1000000000000) : pin (Lib.itoa n) = (n, true) := by
  have hv := Par.itoa_val h0
  unfold pin
  rw [hv, if_pos ⟨rfl, by omega⟩]

theorem cut_none {c : UInt8} {x : List UInt8} (h : ∀ d ∈ x, d ≠ c) : Tx.cutAt c x = (x, [], false) := by
  have hi : Tx.idx c x = x.length := Tx.idx_eq (Nat.le_refl _) (fun j hj _ => h _ (List.getElem_mem _)) (fun h => absurd h (Nat.lt_irrefl _))
  unfold Tx.cutAt; rw [hi, if_neg (Nat.lt_irrefl _)]
theorem cut_first {c : UInt8} {x : List UInt8} (r : List UInt8) (h : ∀ d ∈ x, d ≠ c) : Tx.cutAt c (x ++ c :: r) = (x, r, true) := by
  have hi : Tx.idx c (x ++ c :: r) = x.length := by
    refine Tx.idx_eq (by simp) (fun j hj hlt => ?_) (fun h => ?_)
    · rw [List.getElem_append_left hlt]; exact h _ (List.getElem_mem _)
    · simp
  unfold Tx.cutAt
  rw [hi, if_pos (by simp)]
  simp

/-- What an ask that was read is like. -/
def Good (a : Asks.T) : Prop := (0 ≤ a.1 ∧ a.1 ≤ a.2 ∧ a.2 ≤ 1000000000000) ∨ (0 ≤ a.1 ∧ a.1 ≤ 1000000000000 ∧ a.2 = -1) ∨ (a.1 = -1 ∧ 0 ≤ a.2 ∧ a.2 ≤ 1000000000000)
theorem good_ok {a : Asks.T} (h : Good a) : Asks.Ok a := by
  unfold Good at h; unfold Asks.Ok; omega
theorem pask_good {x : List UInt8} (h : (pask x).2 = true) : Good (pask x).1 := by
  have h1 := pin_nn (Tx.cutAt 45 x).1
  have h2 := pin_nn (Tx.cutAt 45 x).2.1
  unfold pask at h ⊢
  split
  · rename_i hc; exact Or.inl ⟨h1.1, hc.2.2, h2.2⟩
  · split
    · exact Or.inr (Or.inl ⟨h1.1, h1.2, rfl⟩)
    · split
      · exact Or.inr (Or.inr ⟨rfl, h2.1, h2.2⟩)
      · rename_i h3 h4 h5
        rw [if_neg h3, if_neg h4, if_neg h5] at h
        cases h
theorem pask_both {p q : Int} (h0 : 0 ≤ p) (h1 : p ≤ q) (h2 : q ≤ 1000000000000) : pask (Lib.itoa p ++ [45] ++ Lib.itoa q) = ((p, q), true) := by
  have hc : Tx.cutAt 45 (Lib.itoa p ++ [45] ++ Lib.itoa q) = (Lib.itoa p, Lib.itoa q, true) := by
    rw [List.append_assoc]; exact cut_first _ (it_45 h0)
  unfold pask
  rw [hc]
  show (if (pin (Lib.itoa p)).2 = true ∧ (pin (Lib.itoa q)).2 = true ∧ (pin (Lib.itoa p)).1 ≤ (pin (Lib.itoa q)).1 then (((pin (Lib.itoa p)).1, (pin (Lib.itoa q)).1), true) else _) = _
  rw [pin_it h0 (by omega), pin_it (by omega) h2, if_pos ⟨rfl, rfl, h1⟩]
theorem pask_fa {a : Asks.T} (h : Good a) : pask (fa a.1 a.2) = (a, true) := by
  obtain ⟨p, q⟩ := a
  rcases h with ⟨h0, h1, h2⟩ | ⟨h0, h1, h2⟩ | ⟨h0, h1, h2⟩
  · have h0' : 0 ≤ p := h0
    have h1' : p ≤ q := h1
    rw [show fa (p, q).1 (p, q).2 = Lib.itoa p ++ [45] ++ Lib.itoa q from fa_both (by show ¬ p < 0; omega) (by show ¬ q < 0; omega)]
    exact pask_both h0 h1 h2
  · have h0' : 0 ≤ p := h0
    have h2' : q = -1 := h2
    subst h2'
    rw [show fa (p, -1).1 (p, (-1 : Int)).2 = Lib.itoa p ++ [45] from fa_open (by show ¬ p < 0; omega) (by show (-1 : Int) < 0; decide)]
    have hc : Tx.cutAt 45 (Lib.itoa p ++ [45]) = (Lib.itoa p, [], true) := cut_first _ (it_45 h0)
    unfold pask
    rw [hc]
    simp only [pin_it h0 h1, pin_nil]
    simp
  · have h0' : p = -1 := h0
    have h1' : 0 ≤ q := h1
    subst h0'
    rw [show fa ((-1 : Int), q).1 (-1, q).2 = [45] ++ Lib.itoa q from fa_neg (by show (-1 : Int) < 0; decide)]
    have hc : Tx.cutAt 45 ([45] ++ Lib.itoa q) = ([], Lib.itoa q, true) := cut_first (x := []) _ (by simp)
    unfold pask
    rw [hc]
    simp only [pin_it h1 h2, pin_nil]
    simp [it_ne h1']
theorem fa_ac {a : Asks.T} (h : Good a) : (∀ c ∈ fa a.1 a.2, ac c = true) ∧ fa a.1 a.2 ≠ [] := by
  obtain ⟨p, q⟩ := a
  have h45 : ac 45 = true := by decide
  rcases h with ⟨h0, h1, h2⟩ | ⟨h0, h1, h2⟩ | ⟨h0, h1, h2⟩
  · have h0' : 0 ≤ p := h0
    have h1' : p ≤ q := h1
    rw [show fa (p, q).1 (p, q).2 = Lib.itoa p ++ [45] ++ Lib.itoa q from fa_both (by show ¬ p < 0; omega) (by show ¬ q < 0; omega)]
    refine ⟨fun c hc => ?_, by simp⟩
    simp only [List.mem_append, List.mem_singleton] at hc
    rcases hc with (hc | rfl) | hc
    · exact it_ac h0 c hc
    · exact h45
    · exact it_ac (by omega) c hc
  · have h0' : 0 ≤ p := h0
    have h2' : q = -1 := h2
    subst h2'
    rw [show fa (p, -1).1 (p, (-1 : Int)).2 = Lib.itoa p ++ [45] from fa_open (by show ¬ p < 0; omega) (by show (-1 : Int) < 0; decide)]
    refine ⟨fun c hc => ?_, by simp⟩
    simp only [List.mem_append, List.mem_singleton] at hc
    rcases hc with hc | rfl
    · exact it_ac h0 c hc
    · exact h45
  · have h0' : p = -1 := h0
    subst h0'
    rw [show fa ((-1 : Int), q).1 (-1, q).2 = [45] ++ Lib.itoa q from fa_neg (by show (-1 : Int) < 0; decide)]
    refine ⟨fun c hc => ?_, by simp⟩
    simp only [List.mem_append, List.mem_singleton] at hc
    rcases hc with rfl | hc
    · exact h45
    · exact it_ac h1 c hc
theorem split_fal {l : List Asks.T} (h : ∀ a ∈ l, Good a) : Tx.split (Tx.join (fal l)) = fal l := by
  rcases List.eq_nil_or_concat l with h0 | ⟨t, z, hz⟩
  · subst h0
    show Tx.split (Tx.join []) = []
    rw [show Tx.join [] = [] from rfl]; unfold Tx.split; rw [Tx.cuts_nil]; rfl
  · have hz' : l = t ++ [z] := by simpa using hz
    subst hz'
    have hg : Good z := h z (by simp)
    rw [show fal (t ++ [z]) = fal t ++ [fa z.1 z.2] by unfold fal; simp]
    refine Tx.split_join_chain _ _ (fun x hx => ?_) (Tx.one_of_scan (scan_ac _ (fa_ac hg).1)) (fa_ac hg).2 (trim_ac (fa_ac hg).1)
    unfold fal at hx
    obtain ⟨d, hd, rfl⟩ := List.mem_map.1 hx
    have hd' := h d (by simp [hd])
    exact ⟨scan_ac _ (fa_ac hd').1, (fa_ac hd').2, trim_ac (fa_ac hd').1⟩
theorem parts_frng {l : List Asks.T} (h : ∀ a ∈ l, Good a) : Lib.hasPrefix (frng l) pre6 = true ∧ parts (frng l) = fal l := by
  have h1 : Lib.hasPrefix (frng l) pre6 = true := by rw [has6]; unfold frng pre6; simp
  refine ⟨h1, ?_⟩
  unfold parts
  have : Lib.trimPrefix (frng l) pre6 = Tx.join (fal l) := by
    unfold Lib.trimPrefix
    rw [h1]
    unfold frng pre6
    simp
  rw [this]
  exact split_fal h
theorem prs_good (s : List UInt8) : (∀ a ∈ (prs s).1, Good a) ∧ ((prs s).2 = true → 1 ≤ (prs s).1.length) ∧ ((prs s).2 = false → (prs s).1 = []) := by
  unfold prs
  split
  · rename_i h
    refine ⟨fun a ha => ?_, fun _ => by rw [askl_len]; exact h.2.2.1, fun e => by cases e⟩
    have ha' : a ∈ askl (parts s) := ha
    unfold askl at ha'
    obtain ⟨x, hx, rfl⟩ := List.mem_map.1 ha'
    have ho := h.2.1
    unfold askOk at ho
    exact pask_good (List.all_eq_true.1 ho x hx)
  · exact ⟨fun a ha => (by cases ha), fun e => (by cases e), fun _ => rfl⟩
/-- Ranges that were read are read back. -/
theorem prs_back (s : List UInt8) : prs (frng (prs s).1) = prs s := by
  obtain ⟨h1, h2, h3⟩ := prs_good s
  have h4 := prs_len s
  obtain ⟨l, ok, hp⟩ : ∃ l ok, prs s = (l, ok) := ⟨_, _, rfl⟩
  rw [hp] at h1 h2 h3 h4 ⊢
  dsimp only at h1 h2 h3 h4 ⊢
  obtain ⟨k1, k2⟩ := parts_frng h1
  cases ok with
  | true =>
    have hf := fal_len l
    have e := prs_yes k2 k1 (by
      unfold askOk
      rw [List.all_eq_true]
      intro x hx
      unfold fal at hx
      obtain ⟨d, hd, rfl⟩ := List.mem_map.1 hx
      rw [pask_fa (h1 d hd)]) (by rw [hf]; exact h2 rfl) (by rw [hf]; exact h4)
    rw [e]
    congr 1
    unfold askl fal
    rw [List.map_map]
    have : ∀ m : List Asks.T, (∀ a ∈ m, Good a) → m.map ((fun x => (pask x).1) ∘ fun a => fa a.1 a.2) = m := by
      intro m hm
      induction m with
      | nil => rfl
      | cons a r ih =>
        rw [List.map_cons, ih (fun b hb => hm b (by simp [hb]))]
        show (pask (fa a.1 a.2)).1 :: r = _
        rw [pask_fa (hm a (by simp))]
    exact this l h1
  | false =>
    obtain rfl := h3 rfl
    exact prs_no k2 (Or.inr (Or.inr (Or.inl (by decide))))
theorem prs_ok (s : List UInt8) : ∀ a ∈ (prs s).1, Asks.Ok a := fun a ha => good_ok ((prs_good s).1 a ha)

/-- A span and its page's length are read back. -/
theorem pcr_back {p q n : Int} (h0 : 0 ≤ p) (h1 : p < q) (h2 : q ≤ n) (h3 : n ≤ 1000000000000) : pcr (Crf.crf p q n) = ((p, q), n, true) := by
  rw [Crf.crf_yes h1]
  have e : ([98, 121, 116, 101, 115, 32] ++ Lib.itoa p ++ [45] ++ Lib.itoa (q - 1) ++ [47] ++ Lib.itoa n : List UInt8) = preC ++ ((Lib.itoa p ++ [45] ++ Lib.itoa (q - 1)) ++ 47 :: Lib.itoa n) := by
    unfold preC; simp [List.append_assoc]
  rw [e]
  generalize hx : Lib.itoa p ++ [45] ++ Lib.itoa (q - 1) = x
  have h47 : ∀ d ∈ x, d ≠ 47 := by
    intro d hd
    subst hx
    simp only [List.mem_append, List.mem_singleton] at hd
    rcases hd with (hd | rfl) | hd
    · exact (ac_solid (it_ac h0 d hd)).2.2.1
    · decide
    · exact (ac_solid (it_ac (by omega) d hd)).2.2.1
  have hpa : pask x = ((p, q - 1), true) := by rw [← hx]; exact pask_both h0 (by omega) (by omega)
  have hne : x ≠ [42] := by
    intro e42
    have : (45 : UInt8) ∈ x := by rw [← hx]; simp
    rw [e42] at this; simp at this
  have hp : Lib.hasPrefix (preC ++ (x ++ 47 :: Lib.itoa n)) preC = true := by rw [hasC]; unfold preC; simp
  have ht : Lib.trimPrefix (preC ++ (x ++ 47 :: Lib.itoa n)) preC = x ++ 47 :: Lib.itoa n := by
    unfold Lib.trimPrefix
    rw [hp]
    unfold preC
    simp
  unfold pcr
  rw [if_pos hp, ht, cut_first _ h47]
  show pcrOf x (pin (Lib.itoa n)) = _
  rw [pin_it (by omega) h3]
  unfold pcrOf
  simp only [if_true]
  rw [if_neg hne, hpa, if_pos ⟨rfl, h0, by show (0 : Int) ≤ q - 1; omega, by show q - 1 < n; omega⟩]
  show ((p, q - 1 + 1), n, true) = _
  rw [show q - 1 + 1 = q by omega]

/-- Every span that asks mean lies in the page. -/
theorem rsv_in {l : List Asks.T} {n : Int} (hl : ∀ a ∈ l, -1 ≤ a.1 ∧ Asks.Ok a) (hn : -1 ≤ n ∧ n ≤ 1000000) : ∀ f ∈ rsv l n, 0 ≤ f.1 ∧ f.1 < f.2 ∧ f.2 ≤ n := by
  intro f hf
  unfold rsv at hf
  obtain ⟨a, ha, hfa⟩ := List.mem_flatMap.1 hf
  obtain ⟨x, y⟩ := a
  obtain ⟨hx, hok⟩ := hl _ ha
  have hx' : -1 ≤ x := hx
  have hy' : -9223372036854775808 ≤ y ∧ y ≤ 9223372036854775807 := hok.2
  unfold rs1 at hfa
  split at hfa
  · rename_i hlt
    simp at hfa
    subst hfa
    have hlt' : (askd x y n).1 < (askd x y n).2 := hlt
    show 0 ≤ (askd x y n).1 ∧ (askd x y n).1 < (askd x y n).2 ∧ (askd x y n).2 ≤ n
    unfold askd RowKit.wrap64 at hlt' ⊢
    split at hlt'
    · simp at hlt'
    · split at hlt'
      · rename_i h1 h2
        rw [if_neg h1, if_pos h2]
        simp only at hlt' ⊢; omega
      · split at hlt'
        · rename_i h1 h2 h3
          rw [if_neg h1, if_neg h2, if_pos h3]
          simp only at hlt' ⊢; omega
        · split at hlt'
          · rename_i h1 h2 h3 h4
            rw [if_neg h1, if_neg h2, if_neg h3, if_pos h4]
            simp only at hlt' ⊢; omega
          · rename_i h1 h2 h3 h4
            rw [if_neg h1, if_neg h2, if_neg h3, if_neg h4]
            simp only at hlt' ⊢; omega
  · simp at hfa
end Go.Proofs.YtobhdfkhfmpdlaaGreatDoor.Rlw
