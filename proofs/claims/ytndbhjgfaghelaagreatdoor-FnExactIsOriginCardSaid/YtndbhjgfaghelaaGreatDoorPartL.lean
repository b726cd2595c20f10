/-
  CONTRACTS AND PLAIN FACTS, several texts in one; each says in its own words what it proves.
-/
import Derived.Test.YtndbhjgfaghelaaGreatDoorPartA
import Derived.Handed
import Derived.HandedShaped
import Derived.Shelf.Vars
import Derived.Test.YtndbhjgfaghelaaGreatDoorPartK
import Derived.Sort.OwnSorted
import Derived.Deep.AppendLies
import Derived.Test.YtndbhjgfaghelaaGreatDoorPartH
import Derived.Test.YtndbhjgfaghelaaGreatDoorPartI
import Derived.Test.YtndbhjgfaghelaaGreatDoorPartG
import Derived.Test.YtndbhjgfaghelaaGreatDoorPartB
set_option linter.unusedSimpArgs false
set_option linter.unusedVariables false

/-
  A WRAP: laid variables beside the world's shape. And: the library's bytealg.MaxLen holds some integer, at every later world.
-/
namespace Go.Proofs.YtndbhjgfaghelaaGreatDoor.Sh
open Go Go.RowKit
set_option linter.unusedVariables false
set_option maxRecDepth 1000000
variable {H : Type} {enc : TypeId × Value → H}

theorem and_shaped {a : Assume} {C : Checked} {os : Os} {f : FuncId} {fn : Func} {s : ChangeSpec} {conds : List PathCond} {apart fresh handsOn again : Bool} {X : World → Array Value → Prop}
    (hX : ∀ (w w' : World) (args : Array Value), w.heap = w'.heap → X w args → X w' args)
    (own : ownKnob C.prog.godebug = none) (started : os.Started) (noInit : C.prog.inits.idxOf? f = none) (hfn : C.prog.funcs[f]? = some fn)
    (witness : ∃ (w : World) (tape : Tape) (i : Input), w.os = os ∧ (w.forCall tape i).Shaped C.prog ∧ i.vars = [] ∧ Input.okWide C.prog (w.forCall tape i) .any w.heap.size f i ∧
      ((s.pre enc C.prog fn conds apart (w.forCall tape i).memory i.args ∧ X (w.forCall tape i).memory i.args) ∧ sizedMet enc C.prog fn (OpenSpec.ofChange s) apart (w.forCall tape i).memory i.args) ∧ a.holds C.prog (lone (Frame.enter C.prog f i.args .normal) [] (w.forCall tape i)))
    (contract : ∀ (W : World) (base : Nat) (args : Array Value) (ds gs : List (DataW H)) (before : List MemPlace),
      (∀ (j : Nat) t v, fn.params[j]? = some t → args[j]? = some v → Value.okWide C.prog W .any base t v) →
      DataW.Whole enc C.prog fn.params.toList s.vars apart W args.toList ds gs before →
      W.ShapedOpen C.prog → X W args →
      Calls C.prog f args W fun e W' => ∃ v, e = .returned v ∧ s.post enc C.prog fn apart fresh handsOn again W args v W') :
    ReturnsInHanded a C os f .any (fun w args => (s.pre enc C.prog fn conds apart w args ∧ X w args) ∧ sizedMet enc C.prog fn (OpenSpec.ofChange s) apart w args) (s.post enc C.prog fn apart fresh handsOn again) := by
  refine returnsInHanded_of_calls own started noInit witness ?_
  intro w tape i _ hsh _ hok hpre hholds
  obtain ⟨_, _, _, fn', hfn', _, _, _, _, hval⟩ := hok
  have e : fn' = fn := Option.some.inj (hfn'.symm.trans hfn)
  subst e
  obtain ⟨⟨⟨ds, gs, before, hw, hc⟩, hx⟩, hz⟩ := hpre
  have hw' := DataW.Whole.of_heap (w' := w.forCall tape i) (by rfl) hw
  refine (contract (w.forCall tape i) w.heap.size i.args ds gs before hval hw' hsh (hX _ _ _ (by rfl) hx)).mono fun e W' ⟨v, he, hp⟩ => ?_
  subst he
  exact ChangeSpec.post_blind hp

def MxL (w : World) : Prop := 8 < w.heap.size ∧ ∃ m, w.cell? ⟨8, 0, none⟩ = some (.int .i64 m)
theorem mxl_below {w w' : World} (h : MxL w) (hb : Below w.heap.size w w') : MxL w' := by
  obtain ⟨hg, m, hc⟩ := h
  exact ⟨Nat.lt_of_lt_of_le hg hb.size, m, (hb.cell (p := ⟨8, 0, none⟩) hg).trans hc⟩
theorem mxl_of {W : World} (h : W.ShapedOpen Tryz.prog) : MxL W := by
  obtain ⟨m, hc⟩ := Go.Proofs.cell_of_shapedOpen_int (g := 8) (zero := #[.int .i64 0]) (t := 3) h (of_decide_eq_true (by kernel_rfl)) (by kernel_rfl) rfl (by kernel_rfl) (by kernel_rfl) Tryz.underlying3
  exact ⟨World.block_lt_of_cell? _ _ hc, m, hc⟩
end Go.Proofs.YtndbhjgfaghelaaGreatDoor.Sh

/-
  CONTRACT of the program's sortParts: the parts of a query that are not empty, in order; nothing that was there before is changed.
-/
namespace Go.Proofs.YtndbhjgfaghelaaGreatDoor.Nt
open Go Go.RowKit
set_option linter.unusedVariables false
set_option maxRecDepth 1000000
set_option maxRecDepth 1000000

def qparts (l : List (List UInt8)) : List (List UInt8) := l.filter (fun p => p != [])
def qsort (xs : List (List UInt8)) : List (List UInt8) := xs.mergeSort (fun x y => decide (x ≤ y))
def query (l : List UInt8) : List UInt8 := Lib.join (qsort (qparts (Spc.spl 38 l))) [38]
theorem qparts_more {l : List (List UInt8)} {k : Nat} (h : k < l.length) : qparts (l.take (k + 1)) = if (l.getD k [] != []) = true then qparts (l.take k) ++ [l.getD k []] else qparts (l.take k) := by
  unfold qparts; rw [take_more h, List.filter_append, List.filter_cons]
  by_cases hc : (l.getD k [] != []) = true
  · rw [if_pos hc, if_pos hc]; rfl
  · rw [if_neg hc, if_neg hc]; simp
theorem qparts_len (l : List (List UInt8)) (k : Nat) : (qparts (l.take k)).length ≤ l.length := by
  have := List.length_filter_le (fun p : List UInt8 => p != []) (l.take k); rw [List.length_take] at this; unfold qparts; omega
theorem qparts_all {l : List (List UInt8)} {k : Nat} (h : ¬ k < l.length) : qparts (l.take k) = qparts l := by rw [List.take_of_length_le (by omega)]
theorem ws_sum (xs : List (List UInt8)) : ws xs = (xs.map (fun c => c.length + 1)).sum := by
  induction xs with
  | nil => rfl
  | cons c r ih => rw [show c :: r = [c] ++ r from rfl, ws_app, ws_one, ih]; simp
theorem ws_perm {xs ys : List (List UInt8)} (h : xs.Perm ys) : ws xs = ws ys := by rw [ws_sum, ws_sum]; exact (h.map _).sum_nat
theorem ws_qsort (xs : List (List UInt8)) : ws (qsort xs) = ws xs := ws_perm (List.mergeSort_perm _ _)
theorem ws_qparts (l : List (List UInt8)) : ws (qparts l) ≤ ws l := by
  induction l with
  | nil => simp [qparts]
  | cons c r ih =>
    unfold qparts at ih ⊢
    rw [List.filter_cons]
    have e0 : True := trivial
    have e : ∀ x : List (List UInt8), ws (c :: x) = ws [c] + ws x := fun x => by rw [show c :: x = [c] ++ x from rfl, ws_app]
    have e2 := e r
    have e1 := e (List.filter (fun p => p != []) r)
    split
    · omega
    · omega
theorem join_ws (s : UInt8) : ∀ xs : List (List UInt8), (Lib.join xs [s]).length ≤ ws xs
  | [] => by simp [Lib.join]
  | [x] => by rw [ws_one]; simp [Lib.join]
  | x :: y :: r => by
    have ih := join_ws s (y :: r)
    have e : ws (x :: y :: r) = ws [x] + ws (y :: r) := by rw [show x :: y :: r = [x] ++ (y :: r) from rfl, ws_app]
    rw [e, ws_one]
    have : Lib.join (x :: y :: r) [s] = x ++ [s] ++ Lib.join (y :: r) [s] := by first | rfl | simp [Lib.join]
    rw [this]; simp; omega
theorem query_len (l : List UInt8) : (query l).length ≤ l.length + 1 := by
  have h1 := join_ws 38 (qsort (qparts (Spc.spl 38 l)))
  rw [ws_qsort] at h1
  have h2 := ws_qparts (Spc.spl 38 l)
  rw [ws_spl] at h2
  unfold query; omega
theorem qsort_len (xs : List (List UInt8)) : (qsort xs).length = xs.length := List.length_mergeSort _

theorem sort_call (v : Value) (B : Nat) (xs : List (List UInt8)) (w : World) (h : Strs.Own w B v xs) (hl : xs.length ≤ 67108864) :
    Calls Tryz.prog 266 #[v] w fun e w' => e = .returned (.tuple #[]) ∧ Strs.Own w' B v (qsort xs) ∧ w.grownBy w' v.ownBlock := by
  rcases h.2 with ⟨rfl, h0⟩ | ⟨g, cap, cur, rfl, hg, hh, hn, hcap, hsz, ht⟩
  · have : xs = [] := List.eq_nil_of_length_eq_zero h0
    subst this
    refine (Tryz.slices_Sort_string_none none 0 w).mono ?_
    rintro e w' ⟨rfl, rfl⟩
    have e : qsort [] = [] := by simp [qsort]
    rw [e]
    exact ⟨rfl, h, ⟨rfl, rfl, rfl, Nat.le_refl _, fun k hk _ => rfl⟩⟩
  · have ht' : cur.toList.take xs.length = xs.map encStr := by rw [Nat.mul_one] at ht; exact ht
    have hlt : g < w.heap.size := (Array.getElem?_eq_some_iff.1 hh).1
    refine (Tryz.slices_Sort_string g 0 cap xs w (holds_of_block hh ht') hlt (by omega)).mono ?_
    rintro e w' ⟨rfl, n, os, rfl⟩
    refine ⟨rfl, ?_, grownBy_sorted _⟩
    have := ownsRow_sorted (base := B) (e := 9) (n := n) (os := os) (ss := xs) (ts := qsort xs) (qsort_len xs) hg hh hn hcap hsz
    show World.ownsRow _ B 9 1 _ (qsort xs).length (Strs.svs (qsort xs))
    rw [qsort_len]; exact this

theorem split38 (s : ByteArray) (w : World) (hs : s.size ≤ 4194304) (hm : Sh.MxL w) :
    Calls Tryz.prog 173 #[.string s, .string ⟨#[38]⟩] w fun e w' => e = .returned (.slice (some ⟨w.heap.size, 0, none⟩) (Spc.spl 38 s.data.toList).length (Spc.spl 38 s.data.toList).length) ∧ Strs.At w' w.heap.size 0 (Spc.spl 38 s.data.toList) ∧ Below w.heap.size w w' ∧ w.heap.size < w'.heap.size := by
  obtain ⟨hg, m, hc⟩ := hm
  have hl := Spc.split_len 38 s
  have ha := Lib.splitB_all ⟨#[38]⟩ (by decide) 0 _ s rfl
  rw [hl] at ha
  have h := Tryz.strings_Split s ⟨#[38]⟩ m w (by omega) hc (by decide)
  rw [← ha] at h
  refine h.mono ?_
  rintro e w' ⟨rfl, rfl⟩
  refine ⟨rfl, fun j hj => ?_, (Below.refl _ _).alloc (Nat.le_refl _) _, by simp⟩
  · rw [World.cell?_alloc_new]
    have hjl : j < (Lib.splitB ⟨#[38]⟩ 0 (Lib.countB s ⟨#[38]⟩) s).length := by rw [hl]; exact hj
    have hsp := Spc.split_spl 38 s
    have e1 : (Spc.spl 38 s.data.toList).getD j [] = ((Lib.splitB ⟨#[38]⟩ 0 (Lib.countB s ⟨#[38]⟩) s)[j]).data.toList := by
      rw [← hsp]; simp [List.getD, hjl]
    rw [e1]
    simp [Strs.sv, hjl]

set_option maxHeartbeats 8000000 in
theorem sort_parts (s : ByteArray) (w : World) (hs : s.size ≤ 4194300) (hm : Sh.MxL w) :
    Calls Tryz.prog 231 #[.string s] w (StrEnd (query s.data.toList) w) := by
  obtain ⟨i0, hi, hz0, hz1, hz2⟩ := info_parts Strs.info_str
  have HOI := Lib.hid (Strs.own_lit_nil w)
  have hba : Below w.heap.size w (w.alloc (.cells #[] 9)) := (Below.refl _ _).alloc (Nat.le_refl _) _
  have HBA := Lib.hid hba
  have HSP := Lib.hid (split38 s _ (by omega) (Sh.mxl_below hm hba))
  have hql := query_len s.data.toList
  rw [Tx.list_len] at hql
  have HQD : Hid (query s.data.toList = Lib.join (qsort (qparts (Spc.spl 38 s.data.toList))) [38]) := Lib.hid rfl
  have hcl := Spc.spl_len 38 s.data.toList
  rw [Tx.list_len] at hcl
  unfold StrEnd
  generalize query s.data.toList = qd at *
  generalize Spc.spl 38 s.data.toList = l at *
  have HLL : Hid (l.length ≤ 4194304) := Lib.hid (by omega)
  have HQL : Hid (qd.length ≤ 4194304) := Lib.hid (by omega)
  have hll : l.length ≤ 4194304 := by omega
  clear hcl hql hs hm hba
  go_enter Tryz.func231, Tryz.ntmps231
  go_wp2_with (fail)
  go_at_call 173
  refine HSP.out.mono ?_
  rintro e w0 ⟨rfl, hat0, hb0, hlt0⟩
  have hs1 : (w.alloc (.cells #[] 9)).heap.size = w.heap.size + 1 := by simp
  rw [hs1] at hat0 hlt0
  have HO0 := Lib.hid (Rec.row_below HOI.out hb0)
  have HB0 := Lib.hid (Base.then_below HBA.out hb0)
  have hbs0 := HB0.out.size
  have HA0 := Lib.hid hat0
  rw [hs1]
  clear hb0 hat0 HOI hs1
  go_wp2
  go_loopw [3, 5, 10] (fun v c i wr => ∃ (k : Nat), k ≤ l.length ∧ i = .int .i64 (k : Int) ∧ Strs.Own wr w.heap.size v (qparts (l.take k)) ∧ Below w.heap.size w wr ∧ Strs.At wr (w.heap.size + 1) 0 l ∧ w.heap.size + 1 < wr.heap.size ∧ Hid (∀ q, v.ownBlock = some q → q ≠ w.heap.size + 1)) (fun _ _ i _ => l.length - (intOf i).toNat)
  case atStart => exact ⟨0, Nat.zero_le _, rfl, HO0.out, HB0.out, HA0.out, hlt0, Lib.hid (fun q hq => by have e : w.heap.size = q := Option.some.inj hq; omega)⟩
  case round =>
    clear HO0 HB0 HA0 hlt0
    obtain ⟨k, hk, rfl, hown, hb, hat, hlt1, HNE⟩ := hrel
    have HO := Lib.hid hown
    have HB := Lib.hid hb
    have HA := Lib.hid hat
    have hbs := hb.size
    have HKL := Lib.hid (qparts_len l k)
    have hsl : (Strs.svs (qparts (l.take k))).length = (qparts (l.take k)).length := Strs.svs_len _
    by_cases hlt : k < l.length
    case neg =>
      have HF : Hid (qparts (l.take k) = qparts l) := Lib.hid (qparts_all hlt)
      have hkx : ¬ (k : Int) < (l.length : Int) := by omega
      have HSC := Lib.hid (sort_call u3 _ _ wr hown (by have h9 := HKL.out; omega))
      have HQE : Hid (qd = Lib.join (qsort (qparts (l.take k))) [38]) := Lib.hid (by rw [HF.out]; exact HQD.out)
      have HLE : Hid ((qsort (qparts (l.take k))).length ≤ 4194304) := Lib.hid (by rw [qsort_len]; have h9 := HKL.out; omega)
      generalize qsort (qparts (l.take k)) = qs at HSC HQE HLE
      clear hown hb hat HA hlt HF
      go_wp2_with (fail)
      go_at_call 266
      refine HSC.out.mono ?_
      rintro e w2 ⟨rfl, ho2, hg2⟩
      have HB2 := Lib.hid (HB.out.grown hg2 hbs (fun q e => (HO.out.lt q e).1))
      have HJ := Lib.hid (lib_join1 38 u3 _ qs w2 (Strs.own_holds ho2) (by have h9 := HLE.out; omega) (by rw [← HQE.out]; have h9 := HQL.out; omega))
      clear ho2 hg2
      go_wp2_with (fail)
      go_at_call 82
      refine HJ.out.mono ?_
      rintro e w3 ⟨rfl, hb3⟩
      have HB3 := Lib.hid (Base.then_below HB2.out hb3)
      clear hb3
      go_wp2
      go_ret
      exact ⟨ret_s (by rw [HQE.out] <;> rfl), HB3.out⟩
    have c0 := hat k hlt
    rw [Nat.zero_add] at c0
    unfold Strs.sv at c0
    have hki : (k : Int) < (l.length : Int) := by omega
    have HM := Lib.hid (qparts_more hlt)
    clear hown hb hat
    generalize l.getD k [] = c at c0 HM
    generalize qparts (l.take k) = ps at HO HKL HM hsl
    by_cases hc : c = []
    · subst hc
      have HX : Hid (qparts (l.take (k + 1)) = ps) := Lib.hid (by rw [HM.out]; rfl)
      clear HM
      go_wp2
      go_roundw
      case rel => exact ⟨k + 1, by omega, by go_num, by rw [HX.out]; exact HO.out, HB.out, HA.out, hlt1, HNE⟩
      case measure => simp [intOf]; omega
    · have hc1 : (c != []) = true := by simpa using hc
      have HX : Hid (qparts (l.take (k + 1)) = ps ++ [c]) := Lib.hid (by rw [HM.out, if_pos hc1])
      have hc2 : (!c.isEmpty) = true := by
        cases c with
        | nil => exact absurd rfl hc
        | cons x r => rfl
      clear HM hc
      go_wp2_with (at_builtin; refine wpList_append_lies _ rfl (.tmp 16) (.tmp 18) 72 rfl w.heap.size 9 i0 (.string ⟨#[]⟩) 1 16 Tryz.underlying72 hi hz0 hz1 hz2 rfl (by decide) _ _ _ rfl (HO.out.alloc _) ⟨wr.heap.size, 0, none⟩ 1 1 [.string ⟨c.toArray⟩] rfl rfl (Strs.news_one _ _ _) (by intro u hu; simp at hu; subst hu; rfl) (by decide) (by have h9 := HKL.out; unfold maxLen; omega) (by have h9 := HKL.out; omega) (by rw [World.size_alloc]; omega) _ rfl ?_; intro g gcap w1 hown1 hg1 hat1 hlt2)
      have R := Lib.hid (Strs.push_own (x := c) HO.out HB.out (Nat.le_refl _) hown1 hg1)
      have hsa : (wr.alloc (.cells #[.string ⟨c.toArray⟩] 9)).heap.size = wr.heap.size + 1 := by simp
      have HA1 : Hid (Strs.At w1 (w.heap.size + 1) 0 l) := Lib.hid (fun j hj => hg1.cell (by rw [World.cell?_alloc_lt _ _ _ hlt1]; exact HA.out j hj) (fun e => HNE.out _ e.symm rfl))
      have hlt3 : w.heap.size + 1 < w1.heap.size := by have := hg1.size; rw [hsa] at this; omega
      have HNE1 : Hid (∀ q, Value.ownBlock (.slice (some ⟨g, 0, none⟩) (ps.length + 1) gcap) = some q → q ≠ w.heap.size + 1) := Lib.hid (fun q hq => by
        have e : g = q := Option.some.inj hq
        subst e
        rcases hat1 with h | h
        · exact HNE.out _ h
        · rw [hsa] at h; omega)
      clear hown1 hg1 hat1 hlt2
      go_wp2
      go_roundw
      case rel => exact ⟨k + 1, by omega, by go_num, by rw [HX.out]; exact R.out.1, R.out.2, HA1.out, hlt3, HNE1⟩
      case measure => simp [intOf]; omega
end Go.Proofs.YtndbhjgfaghelaaGreatDoor.Nt

/-
  CONTRACTS of both sides' SplitTarget: at every text each returns what stands before and behind the first question mark, and whether there is one; nothing that was there before is changed.
-/
namespace Go.Proofs.YtndbhjgfaghelaaGreatDoor.Tx
open Go Go.RowKit
set_option linter.unusedVariables false
set_option maxRecDepth 1000000

theorem impl_tgt_s (s : ByteArray) (w : World) (hs : s.size ≤ 9223372036854775806) :
    Calls Tryz.prog 228 #[.string s] w (CutEnd 63 s.data.toList w) := by
  have c1 := cut_any s 63 w hs
  go_enter Tryz.func228, Tryz.ntmps228
  go_wp2_with (go_at_call 155; refine c1.mono ?_; rintro e w' ⟨rfl, hb⟩)
  go_ret3
  exact ⟨rfl, hb⟩

theorem tgt_miss {s : ByteArray} {w w' : World} (h1 : ∀ j (hj : j < s.data.toList.length), j < s.size → s.data.toList[j] ≠ 63) (hb : Below w.heap.size w w') :
    CutEnd 63 s.data.toList w (.returned (.tuple #[.string s, .string ⟨#[]⟩, .bool false])) w' := by
  have hl : s.data.toList.length = s.size := by rw [Array.length_toList]; rfl
  have hi : idx 63 s.data.toList = s.size := idx_eq (by omega) h1 (fun h => absurd h (by omega))
  exact cut_miss (by omega) hb
theorem tgt_hit {s : ByteArray} {w w' : World} {k : Nat} (hk : k < s.size) (h1 : ∀ j (hj : j < s.data.toList.length), j < k → s.data.toList[j] ≠ 63) (h2 : ∀ h : k < s.data.toList.length, s.data.toList[k] = 63) (hb : Below w.heap.size w w') :
    CutEnd 63 s.data.toList w (.returned (.tuple #[.string (s.extract 0 k), .string (s.extract (k + 1) s.size), .bool true])) w' := by
  have hl : s.data.toList.length = s.size := by rw [Array.length_toList]; rfl
  exact cut_hit (idx_eq (by omega) h1 h2).symm hk hb

set_option maxHeartbeats 1000000 in
theorem spec_tgt_s (s : ByteArray) (w : World) (hs : s.size ≤ 9223372036854775806) :
    Calls Tryz.prog 180 #[.string s] w (CutEnd 63 s.data.toList w) := by
  go_enter Tryz.func180, Tryz.ntmps180
  go_wp2
  go_loop [5] (fun i => ∃ k : Nat, k ≤ s.size ∧ i = .int .i64 k ∧ ∀ j (hj : j < s.data.toList.length), j < k → s.data.toList[j] ≠ 63) (fun i => s.size - (intOf i).toNat)
  case atStart => exact ⟨0, Nat.zero_le _, rfl, fun j hj h => absurd h (by omega)⟩
  case round =>
    obtain ⟨k, hk, rfl, hno⟩ := hrel
    have HN := Lib.hid hno
    clear hno
    by_cases hlt : k < s.size
    · rcases hc : ((s[k].toNat : Int) == 63) with _ | _
      · have HC : Hid (s[k] ≠ 63) := Lib.hid (by intro h; rw [h] at hc; revert hc; decide)
        go_wp2
        go_round
        case rel => exact ⟨k + 1, by omega, by go_num, fun j hj h => by
          rcases Nat.lt_or_ge j k with h' | h'
          · exact HN.out j hj h'
          · have : j = k := by omega
            subst this; exact HC.out⟩
        case measure => simp [intOf]; omega
      · have HC : Hid (s[k] = 63) := Lib.hid (UInt8.toNat_inj.1 (by have := beq_iff_eq.1 hc; simp; omega))
        go_wp2
        go_quiet (fail)
        go_wp2
        go_ret3
        exact tgt_hit hlt HN.out (fun _ => HC.out) (below_drewN' (Below.refl _ _) _)
    · obtain rfl : k = s.size := by omega
      go_wp2
      go_ret3
      exact tgt_miss HN.out (Below.refl _ _)
theorem impl_tgt (l : List UInt8) (w : World) (hs : l.length ≤ 9223372036854775806) : Calls Tryz.prog 228 #[.string ⟨l.toArray⟩] w (CutEnd 63 l w) := impl_tgt_s ⟨l.toArray⟩ w (by simpa [ByteArray.size] using hs)
theorem spec_tgt (l : List UInt8) (w : World) (hs : l.length ≤ 9223372036854775806) : Calls Tryz.prog 180 #[.string ⟨l.toArray⟩] w (CutEnd 63 l w) := spec_tgt_s ⟨l.toArray⟩ w (by simpa [ByteArray.size] using hs)
end Go.Proofs.YtndbhjgfaghelaaGreatDoor.Tx

/-
  CONTRACTS of the program's NormalTarget and IsNormalTarget; nothing that was there before is changed.
-/
namespace Go.Proofs.YtndbhjgfaghelaaGreatDoor.Nt
open Go Go.RowKit
set_option linter.unusedVariables false
set_option maxRecDepth 1000000
set_option maxRecDepth 1000000

/-- The target in its one way, and whether it is good. -/
def ntar (l : List UInt8) : List UInt8 × Bool :=
  if (normp (Tx.cutAt 63 l).1).2 = true ∧ (normp (Tx.cutAt 63 l).2.1).2 = true ∧ [47].isPrefixOf (normp (Tx.cutAt 63 l).1).1 = true then
    (if query (normp (Tx.cutAt 63 l).2.1).1 = [] then pathd (normp (Tx.cutAt 63 l).1).1 else pathd (normp (Tx.cutAt 63 l).1).1 ++ [63] ++ query (normp (Tx.cutAt 63 l).2.1).1, true)
  else ([], false)
theorem cut_len (c : UInt8) (l : List UInt8) : (Tx.cutAt c l).1.length ≤ l.length ∧ (Tx.cutAt c l).2.1.length ≤ l.length := by
  unfold Tx.cutAt; split
  · constructor
    · simp only [List.length_take]; omega
    · simp only [List.length_drop]; omega
  · exact ⟨Nat.le_refl _, Nat.zero_le _⟩
theorem bs_len (l : List UInt8) : (⟨l.toArray⟩ : ByteArray).size = l.length := by show l.toArray.size = _; simp
theorem pre_one {l : List UInt8} (h : [47].isPrefixOf l = true) : 1 ≤ l.length := by
  cases l with
  | nil => simp at h
  | cons x r => simp

set_option maxHeartbeats 8000000 in
theorem impl_nt (l : List UInt8) (w : World) (hl : l.length ≤ 4194200) (he : Par.Errs w) (hm : Sh.MxL w) :
    Calls Tryz.prog 172 #[.string ⟨l.toArray⟩] w (PairEnd (ntar l) w) := by
  have hc := cut_len 63 l
  have HC := Lib.hid (Tx.impl_tgt l w (by omega))
  have HN : Hid (ntar l = if (normp (Tx.cutAt 63 l).1).2 = true ∧ (normp (Tx.cutAt 63 l).2.1).2 = true ∧ [47].isPrefixOf (normp (Tx.cutAt 63 l).1).1 = true then
    (if query (normp (Tx.cutAt 63 l).2.1).1 = [] then pathd (normp (Tx.cutAt 63 l).1).1 else pathd (normp (Tx.cutAt 63 l).1).1 ++ [63] ++ query (normp (Tx.cutAt 63 l).2.1).1, true)
    else ([], false)) := Lib.hid rfl
  have HER := Lib.hid (fun W (hb : Below w.heap.size w W) => Par.errs_below he hb)
  have HMX := Lib.hid (fun W (hb : Below w.heap.size w W) => Sh.mxl_below hm hb)
  unfold Tx.CutEnd at HC
  unfold PairEnd
  generalize ntar l = res at *
  obtain ⟨r1, r2⟩ := res
  generalize Tx.cutAt 63 l = ct at *
  obtain ⟨p, q, b⟩ := ct
  simp only at *
  have HP := Lib.hid (fun W (hb : Below w.heap.size w W) => codes_call ⟨p.toArray⟩ W (by rw [bs_len]; omega) (HER.out W hb))
  have HQ := Lib.hid (fun W (hb : Below w.heap.size w W) => codes_call ⟨q.toArray⟩ W (by rw [bs_len]; omega) (HER.out W hb))
  have hpl := normp_len p
  have hql := normp_len q
  unfold PairEnd at HP HQ
  rw [show (⟨p.toArray⟩ : ByteArray).data.toList = p from rfl] at HP
  rw [show (⟨q.toArray⟩ : ByteArray).data.toList = q from rfl] at HQ
  generalize normp p = np at *
  generalize normp q = nq at *
  obtain ⟨p1, pb⟩ := np
  obtain ⟨q1, qb⟩ := nq
  simp only at *
  have HHP := Lib.hid (fun W => Tryz.strings_HasPrefix ⟨p1.toArray⟩ ⟨#[47]⟩ W)
  rw [show Lib.hasPrefix (⟨p1.toArray⟩ : ByteArray).data.toList (⟨#[47]⟩ : ByteArray).data.toList = [47].isPrefixOf p1 from rfl] at HHP
  have HPD := Lib.hid (fun W (h : [47].isPrefixOf p1 = true) => dots_call ⟨p1.toArray⟩ W (by rw [bs_len]; exact pre_one h) (by rw [bs_len]; omega))
  have HSO := Lib.hid (fun W (hb : Below w.heap.size w W) => sort_parts ⟨q1.toArray⟩ W (by rw [bs_len]; omega) (HMX.out W hb))
  unfold StrEnd at HPD HSO
  rw [show (⟨p1.toArray⟩ : ByteArray).data.toList = p1 from rfl] at HPD
  rw [show (⟨q1.toArray⟩ : ByteArray).data.toList = q1 from rfl] at HSO
  have hdl := pathd_len p1
  have hul := query_len q1
  generalize pathd p1 = t at *
  generalize query q1 = u at *
  generalize hpre : [47].isPrefixOf p1 = pre at *
  clear hpre he hm
  have HTL : Hid (t.length ≤ 4194300) := Lib.hid (by omega)
  have HUL : Hid (u.length ≤ 4194300) := Lib.hid (by omega)
  clear hc hpl hql hdl hul hl
  cases pb
  case false =>
    have HE : Hid ((r1, r2) = ([], false)) := Lib.hid (by rw [HN.out]; exact if_neg (fun h => Bool.noConfusion h.1))
    clear HN
    go_enter Tryz.func172, Tryz.ntmps172
    go_wp2_with (fail)
    go_at_call 228
    refine HC.out.mono ?_
    rintro e w1 ⟨rfl, hb1⟩
    have HB1 := Lib.hid hb1
    clear hb1
    go_wp2_with (fail)
    go_at_call 229
    refine (HP.out _ HB1.out).mono ?_
    rintro e w2 ⟨rfl, hb2⟩
    have HB2 := Lib.hid (Base.then_below HB1.out hb2)
    clear hb2
    go_wp2_with (fail)
    go_at_call 229
    refine (HQ.out _ HB2.out).mono ?_
    rintro e w3 ⟨rfl, hb3⟩
    have HB3 := Lib.hid (Base.then_below HB2.out hb3)
    clear hb3
    go_wp2
    go_ret2
    exact ⟨ret_qn HE.out.symm, HB3.out⟩
  cases qb
  case false =>
    have HE : Hid ((r1, r2) = ([], false)) := Lib.hid (by rw [HN.out]; exact if_neg (fun h => Bool.noConfusion h.2.1))
    clear HN
    go_enter Tryz.func172, Tryz.ntmps172
    go_wp2_with (fail)
    go_at_call 228
    refine HC.out.mono ?_
    rintro e w1 ⟨rfl, hb1⟩
    have HB1 := Lib.hid hb1
    clear hb1
    go_wp2_with (fail)
    go_at_call 229
    refine (HP.out _ HB1.out).mono ?_
    rintro e w2 ⟨rfl, hb2⟩
    have HB2 := Lib.hid (Base.then_below HB1.out hb2)
    clear hb2
    go_wp2_with (fail)
    go_at_call 229
    refine (HQ.out _ HB2.out).mono ?_
    rintro e w3 ⟨rfl, hb3⟩
    have HB3 := Lib.hid (Base.then_below HB2.out hb3)
    clear hb3
    go_wp2
    go_ret2
    exact ⟨ret_qn HE.out.symm, HB3.out⟩
  cases pre
  case false =>
    have HE : Hid ((r1, r2) = ([], false)) := Lib.hid (by rw [HN.out]; exact if_neg (fun h => Bool.noConfusion h.2.2))
    clear HN
    go_enter Tryz.func172, Tryz.ntmps172
    go_wp2_with (fail)
    go_at_call 228
    refine HC.out.mono ?_
    rintro e w1 ⟨rfl, hb1⟩
    have HB1 := Lib.hid hb1
    clear hb1
    go_wp2_with (fail)
    go_at_call 229
    refine (HP.out _ HB1.out).mono ?_
    rintro e w2 ⟨rfl, hb2⟩
    have HB2 := Lib.hid (Base.then_below HB1.out hb2)
    clear hb2
    go_wp2_with (fail)
    go_at_call 229
    refine (HQ.out _ HB2.out).mono ?_
    rintro e w3 ⟨rfl, hb3⟩
    have HB3 := Lib.hid (Base.then_below HB2.out hb3)
    clear hb3
    go_wp2_with (fail)
    go_at_call 170
    refine (HHP.out _).mono ?_
    rintro e w4 ⟨rfl, rfl⟩
    go_wp2
    go_ret2
    exact ⟨ret_qn HE.out.symm, HB3.out⟩
  have HE : Hid ((r1, r2) = (if u = [] then t else t ++ [63] ++ u, true)) := Lib.hid (by rw [HN.out]; exact if_pos ⟨rfl, rfl, rfl⟩)
  have a1 := Tx.addtwo t [63] (by have := HTL.out; simp only [List.length_cons, List.length_nil]; omega)
  have a2 := Tx.addtwo (t ++ [63]) u (by have := HTL.out; have := HUL.out; simp only [List.length_append, List.length_cons, List.length_nil]; omega)
  clear HN
  by_cases hu : u = []
  · subst hu
    rw [if_pos rfl] at HE
    clear a1 a2
    go_enter Tryz.func172, Tryz.ntmps172
    go_wp2_with (fail)
    go_at_call 228
    refine HC.out.mono ?_
    rintro e w1 ⟨rfl, hb1⟩
    have HB1 := Lib.hid hb1
    clear hb1
    go_wp2_with (fail)
    go_at_call 229
    refine (HP.out _ HB1.out).mono ?_
    rintro e w2 ⟨rfl, hb2⟩
    have HB2 := Lib.hid (Base.then_below HB1.out hb2)
    clear hb2
    go_wp2_with (fail)
    go_at_call 229
    refine (HQ.out _ HB2.out).mono ?_
    rintro e w3 ⟨rfl, hb3⟩
    have HB3 := Lib.hid (Base.then_below HB2.out hb3)
    clear hb3
    go_wp2_with (fail)
    go_at_call 170
    refine (HHP.out _).mono ?_
    rintro e w4 ⟨rfl, rfl⟩
    go_wp2_with (fail)
    go_at_call 230
    refine (HPD.out _ True.intro).mono ?_
    rintro e w5 ⟨rfl, hb5⟩
    have HB5 := Lib.hid (Base.then_below HB3.out hb5)
    clear hb5
    go_wp2_with (fail)
    go_at_call 231
    refine (HSO.out _ HB5.out).mono ?_
    rintro e w6 ⟨rfl, hb6⟩
    have HB6 := Lib.hid (Base.then_below HB5.out hb6)
    clear hb6
    go_wp2
    go_ret2
    exact ⟨ret_qn HE.out.symm, HB6.out⟩
  · rw [if_neg hu] at HE
    have hu1 : (u == []) = false := by simpa using hu
    have hu2 : u.isEmpty = false := by
      cases u with
      | nil => exact absurd rfl hu
      | cons x r => rfl
    clear hu
    generalize t ++ [63] = t1 at *
    generalize t1 ++ u = t2 at *
    go_enter Tryz.func172, Tryz.ntmps172
    go_wp2_with (fail)
    go_at_call 228
    refine HC.out.mono ?_
    rintro e w1 ⟨rfl, hb1⟩
    have HB1 := Lib.hid hb1
    clear hb1
    go_wp2_with (fail)
    go_at_call 229
    refine (HP.out _ HB1.out).mono ?_
    rintro e w2 ⟨rfl, hb2⟩
    have HB2 := Lib.hid (Base.then_below HB1.out hb2)
    clear hb2
    go_wp2_with (fail)
    go_at_call 229
    refine (HQ.out _ HB2.out).mono ?_
    rintro e w3 ⟨rfl, hb3⟩
    have HB3 := Lib.hid (Base.then_below HB2.out hb3)
    clear hb3
    go_wp2_with (fail)
    go_at_call 170
    refine (HHP.out _).mono ?_
    rintro e w4 ⟨rfl, rfl⟩
    go_wp2_with (fail)
    go_at_call 230
    refine (HPD.out _ True.intro).mono ?_
    rintro e w5 ⟨rfl, hb5⟩
    have HB5 := Lib.hid (Base.then_below HB3.out hb5)
    clear hb5
    go_wp2_with (fail)
    go_at_call 231
    refine (HSO.out _ HB5.out).mono ?_
    rintro e w6 ⟨rfl, hb6⟩
    have HB6 := Lib.hid (Base.then_below HB5.out hb6)
    clear hb6
    go_wp2
    go_ret2
    exact ⟨ret_qn HE.out.symm, HB6.out⟩
end Go.Proofs.YtndbhjgfaghelaaGreatDoor.Nt

/-
  CONTRACT of the model's l12Hex; the world stays as it was.
-/
namespace Go.Proofs.YtndbhjgfaghelaaGreatDoor.Nt
open Go Go.RowKit
set_option linter.unusedVariables false
set_option maxRecDepth 1000000

theorem ret_i {a b : Int} (h : a = b) : Ending.returned (.int .i64 a) = .returned (.int .i64 b) := by rw [h]
theorem byte_bd (c : UInt8) : 0 ≤ (c.toNat : Int) ∧ (c.toNat : Int) ≤ 255 := by have := c.toNat_lt; omega

set_option maxHeartbeats 1000000 in
theorem spec_hex (c : UInt8) (w : World) : Calls Tryz.prog 235 #[.int .u8 (c.toNat : Int)] w fun e w' => e = .returned (.int .i64 (hexi c)) ∧ w = w' := by
  have hb := byte_bd c
  have H1 : Hid ((48 ≤ (c.toNat : Int) ∧ (c.toNat : Int) ≤ 57) → hexi c = (c.toNat : Int) - 48) := Lib.hid (fun h => by unfold hexi hexn; rw [if_pos (by omega : 48 ≤ c.toNat ∧ c.toNat ≤ 57), if_pos (by omega)]; omega)
  have H2 : Hid (¬ (48 ≤ (c.toNat : Int) ∧ (c.toNat : Int) ≤ 57) → (97 ≤ (c.toNat : Int) ∧ (c.toNat : Int) ≤ 102) → hexi c = (c.toNat : Int) - 97 + 10) := Lib.hid (fun h h2 => by unfold hexi hexn; rw [if_neg (by omega : ¬ (48 ≤ c.toNat ∧ c.toNat ≤ 57)), if_pos (by omega : 97 ≤ c.toNat ∧ c.toNat ≤ 102), if_pos (by omega)]; omega)
  have H3 : Hid (¬ (48 ≤ (c.toNat : Int) ∧ (c.toNat : Int) ≤ 57) → ¬ (97 ≤ (c.toNat : Int) ∧ (c.toNat : Int) ≤ 102) → (65 ≤ (c.toNat : Int) ∧ (c.toNat : Int) ≤ 70) → hexi c = (c.toNat : Int) - 65 + 10) := Lib.hid (fun h h2 h3 => by unfold hexi hexn; rw [if_neg (by omega : ¬ (48 ≤ c.toNat ∧ c.toNat ≤ 57)), if_neg (by omega : ¬ (97 ≤ c.toNat ∧ c.toNat ≤ 102)), if_pos (by omega : 65 ≤ c.toNat ∧ c.toNat ≤ 70), if_pos (by omega)]; omega)
  have H4 : Hid (¬ (48 ≤ (c.toNat : Int) ∧ (c.toNat : Int) ≤ 57) → ¬ (97 ≤ (c.toNat : Int) ∧ (c.toNat : Int) ≤ 102) → ¬ (65 ≤ (c.toNat : Int) ∧ (c.toNat : Int) ≤ 70) → hexi c = -1) := Lib.hid (fun h h2 h3 => by unfold hexi hexn; rw [if_neg (by omega : ¬ (48 ≤ c.toNat ∧ c.toNat ≤ 57)), if_neg (by omega : ¬ (97 ≤ c.toNat ∧ c.toNat ≤ 102)), if_neg (by omega : ¬ (65 ≤ c.toNat ∧ c.toNat ≤ 70)), if_neg (by omega)])
  generalize hexi c = z at H1 H2 H3 H4 ⊢
  generalize (c.toNat : Int) = n at H1 H2 H3 H4 hb ⊢
  obtain ⟨hb1, hb2⟩ := hb
  by_cases h1 : 48 ≤ n ∧ n ≤ 57
  · have HE := Lib.hid (H1.out h1)
    obtain ⟨p1, p2⟩ := h1
    clear H1 H2 H3 H4
    go_enter Tryz.func235, Tryz.ntmps235
    go_wp2_with (go_at_call 90; refine (NumDiv.in_yes _ _ _ _ p1 p2).mono ?_; rintro e w' ⟨rfl, rfl⟩)
    go_ret
    exact ⟨ret_i HE.out.symm, rfl⟩
  have N1 : Hid (n < 48 ∨ 57 < n) := Lib.hid (by omega)
  by_cases h2 : 97 ≤ n ∧ n ≤ 102
  · have HE := Lib.hid (H2.out h1 h2)
    obtain ⟨p1, p2⟩ := h2
    clear H1 H2 H3 H4 h1
    go_enter Tryz.func235, Tryz.ntmps235
    go_wp2_with (fail)
    go_at_call 90
    refine (NumDiv.in_no _ _ _ _ N1.out).mono ?_
    rintro e w' ⟨rfl, rfl⟩
    go_wp2_with (fail)
    go_at_call 90
    refine (NumDiv.in_yes _ _ _ _ p1 p2).mono ?_
    rintro e w' ⟨rfl, rfl⟩
    go_wp2
    go_ret
    exact ⟨ret_i HE.out.symm, rfl⟩
  have N2 : Hid (n < 97 ∨ 102 < n) := Lib.hid (by omega)
  by_cases h3 : 65 ≤ n ∧ n ≤ 70
  · have HE := Lib.hid (H3.out h1 h2 h3)
    obtain ⟨p1, p2⟩ := h3
    clear H1 H2 H3 H4 h1 h2
    go_enter Tryz.func235, Tryz.ntmps235
    go_wp2_with (fail)
    go_at_call 90
    refine (NumDiv.in_no _ _ _ _ N1.out).mono ?_
    rintro e w' ⟨rfl, rfl⟩
    go_wp2_with (fail)
    go_at_call 90
    refine (NumDiv.in_no _ _ _ _ N2.out).mono ?_
    rintro e w' ⟨rfl, rfl⟩
    go_wp2_with (fail)
    go_at_call 90
    refine (NumDiv.in_yes _ _ _ _ p1 p2).mono ?_
    rintro e w' ⟨rfl, rfl⟩
    go_wp2
    go_ret
    exact ⟨ret_i HE.out.symm, rfl⟩
  have N3 : Hid (n < 65 ∨ 70 < n) := Lib.hid (by omega)
  have HE := Lib.hid (H4.out h1 h2 h3)
  clear H1 H2 H3 H4 h1 h2 h3
  go_enter Tryz.func235, Tryz.ntmps235
  go_wp2_with (fail)
  go_at_call 90
  refine (NumDiv.in_no _ _ _ _ N1.out).mono ?_
  rintro e w' ⟨rfl, rfl⟩
  go_wp2_with (fail)
  go_at_call 90
  refine (NumDiv.in_no _ _ _ _ N2.out).mono ?_
  rintro e w' ⟨rfl, rfl⟩
  go_wp2_with (fail)
  go_at_call 90
  refine (NumDiv.in_no _ _ _ _ N3.out).mono ?_
  rintro e w' ⟨rfl, rfl⟩
  go_wp2
  go_ret
  exact ⟨ret_i HE.out.symm, rfl⟩
end Go.Proofs.YtndbhjgfaghelaaGreatDoor.Nt
