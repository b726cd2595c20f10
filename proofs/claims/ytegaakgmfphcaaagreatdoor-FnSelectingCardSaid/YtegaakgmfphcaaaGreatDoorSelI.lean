/-
  CONTRACTS AND PLAIN FACTS, several texts in one; each says in its own words what it proves.
-/
import Derived.Test.YtegaakgmfphcaaaGreatDoorSelH
import Derived.Test.YtegaakgmfphcaaaGreatDoorSelA
import Derived.LoopTactic
import Derived.Outline
import Derived.Carry
import Derived.Test.YtegaakgmfphcaaaGreatDoorSelD
import Derived.Laws.Append
import Derived.Laws.AppendOwn
import Derived.Laws.IdiomStrings
import Derived.Laws.BytesArg
import Derived.OwnWalk
import Derived.Laws.OwnMore
import Derived.Test.YtegaakgmfphcaaaGreatDoorSelB
import Derived.Test.YtegaakgmfphcaaaGreatDoorSelG
import Derived.Test.YtegaakgmfphcaaaGreatDoorRows
import Derived.WalkKit
import Derived.ProofKit
import Derived.Lib.Hide
import Derived.OpenShut
set_option linter.unusedSimpArgs false
set_option linter.unusedVariables false

/-
  CONTRACT of the program's eachOnce: each of the texts where it stands first, in memory of its own; nothing that was there before is changed.
-/
namespace Go.Proofs.YtegaakgmfphcaaaGreatDoor.Onc
open Go Go.RowKit
set_option linter.unusedVariables false
set_option maxRecDepth 1000000
set_option maxRecDepth 1000000

abbrev L : Type := List (List UInt8)
def step (acc : L) (s : List UInt8) : L := if acc.contains s = true then acc else acc ++ [s]
/-- Each text where it stands first. -/
def once (l : L) : L := l.foldl step []
theorem once_more {l : L} {k : Nat} (h : k < l.length) : once (l.take (k + 1)) = step (once (l.take k)) (l.getD k []) := by
  unfold once
  rw [List.take_succ_eq_append_getElem h, List.foldl_append, show l.getD k [] = l[k] by simp [List.getD, h]]; rfl
theorem step_has (acc : L) (s x : List UInt8) : (step acc s).contains x = (acc.contains x || x == s) := by
  unfold step
  by_cases h : acc.contains s = true
  · rw [if_pos h]
    by_cases e : x = s
    · subst e; rw [h]; rfl
    · have : (x == s) = false := by simpa using e
      rw [this, Bool.or_false]
  · rw [if_neg h, List.contains_append, List.contains_cons, List.contains_nil, Bool.or_false]
theorem fold_has : ∀ (l acc : L) (x : List UInt8), (l.foldl step acc).contains x = (acc.contains x || l.contains x)
  | [], acc, x => by simp
  | a :: r, acc, x => by
    rw [List.foldl_cons, fold_has r, step_has, List.contains_cons, Bool.or_assoc]
theorem once_has (l : L) (x : List UInt8) : (once l).contains x = l.contains x := by unfold once; rw [fold_has]; simp
theorem step_len (acc : L) (s : List UInt8) : (step acc s).length ≤ acc.length + 1 := by
  unfold step; split
  · omega
  · rw [List.length_append]; simp
theorem fold_len : ∀ (l acc : L), (l.foldl step acc).length ≤ acc.length + l.length
  | [], acc => by simp
  | a :: r, acc => by
    rw [List.foldl_cons, List.length_cons]
    have h1 := fold_len r (step acc a); have h2 := step_len acc a; omega
theorem once_len (l : L) : (once l).length ≤ l.length := by have := fold_len l []; unfold once; simpa using this
theorem take_has {l : L} {k : Nat} (h : k < l.length) (y : List UInt8) : (l.take (k + 1)).contains y = (y == l.getD k [] || (l.take k).contains y) := by
  rw [List.take_succ_eq_append_getElem h, List.contains_append, show l.getD k [] = l[k] by simp [List.getD, h], List.contains_cons, List.contains_nil, Bool.or_false, Bool.or_comm]
theorem has_at {l : L} {k : Nat} (h : k < l.length) : l.contains (l.getD k []) = true := by
  rw [show l.getD k [] = l[k] by simp [List.getD, h]]; simp
theorem mem_at {l : L} {k : Nat} (h : k < l.length) : l.getD k [] ∈ l := by
  rw [show l.getD k [] = l[k] by simp [List.getD, h]]; exact List.getElem_mem _
theorem shape_s {w : World} {B : Nat} {v : Value} {xs : L} (h : Strs.Holds w B v xs) : ∃ a cap, v = .slice a xs.length cap ∧ (0 < xs.length → ∃ b off, a = some ⟨b, off, none⟩ ∧ b < B ∧ Strs.At w b off xs) := by
  rcases h with ⟨rfl, a, cap, rfl⟩ | ⟨h0, b, off, cap, rfl, h2, hc, h1⟩
  · exact ⟨a, cap, rfl, fun h => absurd h (by simp)⟩
  · exact ⟨_, cap, rfl, fun _ => ⟨b, off, rfl, h2, h1⟩⟩
theorem zeroB (w : World) : (zeroValue 4).run Tryz.prog w = .ok (.bool false) w := by kernel_rfl
abbrev MSet (w : World) (b n : Nat) (f : List UInt8 → Bool) : Prop := Mpb.Set w Tryz.prog 9 4 b n f
def OncEnd (l : L) (w : World) (e : Ending) (w' : World) : Prop := ∃ u, e = .returned u ∧ Strs.Own w' w.heap.size u (once l) ∧ Below w.heap.size w w'

set_option maxHeartbeats 4000000 in
theorem impl_once (v : Value) (B : Nat) (xs : L) (w : World) (h : Strs.Holds w B v xs) (hB : B ≤ w.heap.size) (hl : xs.length ≤ 8000000) (hx : ∀ x ∈ xs, x.length ≤ 4194304) :
    Calls Tryz.prog 28 #[v] w (OncEnd xs w) := by
  obtain ⟨i0, hi, hz0, hz1, hz2⟩ := info_parts Strs.info_str
  obtain ⟨a, cap, rfl, ha⟩ := shape_s h
  have HA := Lib.hid ha
  have HXL := Lib.hid hx
  have HM0 : Hid (MSet (w.alloc (.map #[] 0)) w.heap.size 0 (fun x => (xs.take 0).contains x)) := Lib.hid (Mpb.same (Mpb.made w) (fun x => by simp))
  have HBM := Lib.hid ((Below.refl w.heap.size w).alloc (Nat.le_refl _) (.map #[] 0))
  have hmm := @run_makeMap Tryz.prog
  clear h ha hx
  unfold OncEnd
  go_enter Tryz.func28, Tryz.ntmps28
  go_wp2
  go_loopw [12] (fun i wr => ∃ k : Nat, k ≤ xs.length ∧ i = .int .i64 (k : Int) ∧ Hid (MSet wr w.heap.size k (fun x => (xs.take k).contains x)) ∧ Below w.heap.size w wr) (fun i _ => xs.length - (intOf i).toNat)
  case atStart => exact ⟨0, Nat.zero_le _, rfl, HM0, HBM.out⟩
  case round =>
    obtain ⟨k, hk, rfl, HS, hb⟩ := hrel
    have HB := Lib.hid hb
    clear HM0 HBM
    by_cases hlt : k < xs.length
    · obtain ⟨b, off, rfl, hbB, hc⟩ := HA.out (by omega)
      have c0 := Strs.at_below hc (hb.mono hB) hbB k hlt
      have HT := Lib.hid (fun y => take_has hlt y)
      have hxl := HXL.out _ (mem_at hlt)
      generalize xs.getD k [] = x at c0 HT hxl
      unfold Strs.sv at c0
      have hsx : (⟨x.toArray⟩ : ByteArray).size = x.length := by simp [ByteArray.size]
      have HSZ : Hid ((⟨x.toArray⟩ : ByteArray).size ≤ maxLen) := Lib.hid (by rw [hsx]; unfold maxLen; omega)
      have hki : (k : Int) < (xs.length : Int) := by omega
      have HKM : Hid (k < maxLen) := Lib.hid (by unfold maxLen; omega)
      clear hb hc hsx hxl
      go_wp2_with (at_mapUpdate; refine Mpb.put _ rfl _ _ _ 76 rfl 9 4 Tryz.underlying76 Tryz.underlying9 Tryz.underlying4 w.heap.size k _ rfl HS.out HKM.out ⟨x.toArray⟩ rfl rfl HSZ.out ?_; intro w1 hs1 hg1)
      have HS1 : Hid (MSet w1 w.heap.size (k + 1) (fun y => (xs.take (k + 1)).contains y)) := Lib.hid (Mpb.same hs1 (fun y => (HT.out y).symm))
      have HB1 := Lib.hid (HB.out.grown hg1 HB.out.size (fun j e => by cases e; exact Nat.le_refl _))
      clear hs1 hg1
      go_wp2
      go_roundw
      case rel => exact ⟨k + 1, by omega, by go_num, HS1, HB1.out⟩
      case measure => simp [intOf]; omega
    · obtain rfl : k = xs.length := by omega
      have HS0 : Hid (MSet wr w.heap.size xs.length (fun x => xs.contains x && !(xs.take 0).contains x)) := Lib.hid (Mpb.same HS.out (fun x => by rw [List.take_length]; simp))
      have HL0 := Lib.hid (Strs.own_lit_nil wr)
      have hgl := Mpb.lt HS.out
      have HO0 : Hid (World.ownsRow (wr.alloc (.cells #[] 9)) (w.heap.size + 1) 9 1 (.slice (some ⟨wr.heap.size, 0, none⟩) 0 0) (once (xs.take 0)).length (Strs.svs (once (xs.take 0)))) := Lib.hid (Rec.own_mono HL0.out (by omega))
      have HS2 := Lib.hid (Mpb.kept (row := none) HS0.out (World.grownBy_alloc wr (.cells #[] 9) none) (by simp))
      have HB2 := Lib.hid (hb.alloc hb.size (.cells #[] 9))
      clear HS HS0 HL0 hb
      go_wp2
      go_loopw [6, 22] (fun u i wr => ∃ k : Nat, k ≤ xs.length ∧ i = .int .i64 (k : Int) ∧ Hid (MSet wr w.heap.size xs.length (fun x => xs.contains x && !(xs.take k).contains x)) ∧ Hid (World.ownsRow wr (w.heap.size + 1) 9 1 u (once (xs.take k)).length (Strs.svs (once (xs.take k)))) ∧ Below w.heap.size w wr) (fun _ i _ => xs.length - (intOf i).toNat)
      case atStart => exact ⟨0, Nat.zero_le _, rfl, HS2, HO0, HB2.out⟩
      case round =>
        clear HS2 HO0 HB2 HB
        obtain ⟨k, hk, rfl, HS, HO, hb⟩ := hrel
        have HB := Lib.hid hb
        by_cases hlt : k < xs.length
        · obtain ⟨b, off, rfl, hbB, hc⟩ := HA.out (by omega)
          have c0 := Strs.at_below hc (hb.mono hB) hbB k hlt
          have HT := Lib.hid (fun y => take_has hlt y)
          have hxl := HXL.out _ (mem_at hlt)
          have hin := has_at hlt
          have HM := Lib.hid (once_more hlt)
          have HLE : Hid ((once (xs.take k)).length ≤ 8000000) := Lib.hid (Nat.le_trans (once_len _) (by rw [List.length_take]; omega))
          have HH := Lib.hid (once_has (xs.take k))
          generalize xs.getD k [] = x at c0 HT hxl hin HM
          unfold Strs.sv at c0
          have hsx : (⟨x.toArray⟩ : ByteArray).size = x.length := by simp [ByteArray.size]
          have HSZ : Hid ((⟨x.toArray⟩ : ByteArray).size ≤ maxLen) := Lib.hid (by rw [hsx]; unfold maxLen; omega)
          have hki : (k : Int) < (xs.length : Int) := by omega
          have hbs := hb.size
          clear hb hc hsx hxl
          cases hseen : (xs.take k).contains x with
          | true =>
            have HV : Hid ((fun x => xs.contains x && !(xs.take k).contains x) (⟨x.toArray⟩ : ByteArray).data.toList = false) := Lib.hid (by show (xs.contains x && !(xs.take k).contains x) = false; rw [hseen]; simp)
            have HE : Hid (once (xs.take (k + 1)) = once (xs.take k)) := Lib.hid (by rw [HM.out]; unfold step; rw [if_pos (by rw [HH.out]; exact hseen)])
            have HF : Hid (∀ y, (xs.contains y && !(xs.take k).contains y) = (xs.contains y && !(xs.take (k + 1)).contains y)) := Lib.hid (fun y => by
              rw [HT.out y]
              by_cases e : y = x
              · subst e; rw [hseen]; simp
              · have : (y == x) = false := by simpa using e
                rw [this]; simp)
            clear HM HH hseen
            go_wp2_with (at_lookup; refine Mpb.look _ rfl _ _ 76 rfl 9 4 Tryz.underlying76 Tryz.underlying9 Tryz.underlying4 (zeroB _) w.heap.size xs.length _ rfl HS.out ⟨x.toArray⟩ rfl HSZ.out false HV.out ?_)
            go_roundw
            case rel => exact ⟨k + 1, by omega, by go_num, Lib.hid (Mpb.same HS.out HF.out), by rw [HE.out]; exact HO, HB.out⟩
            case measure => simp [intOf]; omega
          | false =>
            have HV : Hid ((fun x => xs.contains x && !(xs.take k).contains x) (⟨x.toArray⟩ : ByteArray).data.toList = true) := Lib.hid (by show (xs.contains x && !(xs.take k).contains x) = true; rw [hseen, hin]; rfl)
            have HE : Hid (once (xs.take (k + 1)) = once (xs.take k) ++ [x]) := Lib.hid (by rw [HM.out]; unfold step; rw [if_neg (by rw [HH.out, hseen]; decide)])
            have HF : Hid (∀ y, (!(y == x) && (xs.contains y && !(xs.take k).contains y)) = (xs.contains y && !(xs.take (k + 1)).contains y)) := Lib.hid (fun y => by
              rw [HT.out y]
              cases (y == x) <;> cases xs.contains y <;> cases (xs.take k).contains y <;> rfl)
            clear HM HH hseen
            generalize once (xs.take k) = m at HO HE HLE
            have hml := Strs.svs_len m
            have hown := HO.out
            have hne : some w.heap.size ≠ Value.ownBlock u6 := fun e => by have := (hown.lt _ e.symm).1; omega
            have HNE := Lib.hid hne
            clear hne
            go_wp2_with (first
              | (at_lookup; refine Mpb.look _ rfl _ _ 76 rfl 9 4 Tryz.underlying76 Tryz.underlying9 Tryz.underlying4 (zeroB _) w.heap.size xs.length _ rfl HS.out ⟨x.toArray⟩ rfl HSZ.out true HV.out ?_)
              | (at_builtin; refine wpList_append_own _ rfl (.tmp 29) (.tmp 31) 27 rfl (w.heap.size + 1) 9 i0 (.string ⟨#[]⟩) 1 16 Tryz.underlying27 hi hz0 hz1 hz2 rfl (by decide) _ _ _ rfl (HO.out.alloc _) ⟨wr.heap.size, 0, none⟩ 1 1 [.string ⟨x.toArray⟩] rfl rfl (Strs.news_one _ _ _) (Strs.sv_one x) (by have := HLE.out; unfold maxLen; omega) (by have := HLE.out; omega) (by simp; omega) ?_; intro v1 w1 hown1 hg1 _; have HP := Lib.hid (Strs.push_own (x := x) HO.out HB.out (Nat.le_succ _) hown1 hg1); have HS1 := Lib.hid (Mpb.kept (Mpb.kept (row := none) HS.out (World.grownBy_alloc wr _ none) (by simp)) hg1 HNE.out); clear hown1 hg1)
              | (at_delete; refine Mpb.drop _ rfl _ _ 76 9 rfl 4 Tryz.underlying76 Tryz.underlying9 w.heap.size xs.length _ rfl HS1.out ⟨x.toArray⟩ rfl HSZ.out ?_; intro w2 hs2 hg2; have HS2 := Lib.hid (Mpb.same hs2 HF.out); have HO2 := Lib.hid (Rec.row_grown HP.out.1 hg2 (fun q hq e => by have h9 := (HP.out.1.lt q hq).1; cases e; omega)); have HB2 := Lib.hid (HP.out.2.grown hg2 HP.out.2.size (fun j e => by cases e; exact Nat.le_refl _)); clear hs2 hg2))
            go_roundw
            case rel => exact ⟨k + 1, by omega, by go_num, HS2, by rw [HE.out]; exact HO2, HB2.out⟩
            case measure => simp [intOf]; omega
        · have HE : Hid (once (xs.take k) = once xs) := Lib.hid (by rw [List.take_of_length_le (by omega)])
          rw [HE.out] at HO
          clear HS hb
          go_wp2
          go_ret
          exact ⟨_, rfl, Rec.own_mono HO.out (Nat.le_succ _), HB.out⟩
end Go.Proofs.YtegaakgmfphcaaaGreatDoor.Onc

/-
  LAWS of an append that say where the slice lies behind it: in the block where it lay, or in a new one.
-/
namespace Go.Proofs.YtegaakgmfphcaaaGreatDoor.Apw
open Go Go.RowKit
set_option linter.unusedVariables false
set_option maxRecDepth 1000000

theorem run_where {P : Program} (w : World) (base : Nat) (t ty e : TypeId) (i : TypeInfo) (z : Value) (size bytes : Nat) (ht : P.underlying t = some (.slice e)) (hi : P.info? e = some i) (hz : i.zero = some z)
    (hsize : i.size = size) (hby : i.bytes = bytes) (hzs : z.cells.size = size) (hsz : 0 < size) (v : Value) (n : Nat) (xs : List Value) (hown : w.ownsRow base e size v n xs)
    (a : Addr) (m c : Nat) (news : List Value) (hl : news.length = m * size) (hnews : ∀ j u, news[j]? = some u → w.cell? (a.add j) = some u) (h1 : ∀ u ∈ news, u.oneCell' = true) (hm : 0 < m)
    (h63 : n + m ≤ maxLen) (hbytes : (n + m) * bytes ≤ 140737488355328) (hbase : base ≤ w.heap.size) :
    ∃ v' w', (Builtin.append_ #[t, t] ty #[v, .slice (some a) m c]).run P w = .ok v' w' ∧ w'.ownsRow base e size v' (n + m) (xs ++ news) ∧ w.grownBy w' v.ownBlock ∧ (v'.ownBlock = v.ownBlock ∨ v'.ownBlock = some w.heap.size) := by
  obtain ⟨v', w', hr, h2, h3, _⟩ := run_append_own (P := P) w base t ty e i z size bytes ht hi hz hsize hby hzs hsz v n xs hown a m c news hl hnews h1 h63 hbytes hbase
  refine ⟨v', w', hr, h2, h3, ?_⟩
  have hmx : n + m ≤ 9223372036854775807 := by unfold maxLen at h63; omega
  subst hsize
  subst hby
  have hown' := hown
  rcases hown.2 with ⟨rfl, rfl⟩ | ⟨g, cap, cur, rfl, hbg, hg, hnc, hcm, hcs, htk⟩
  · have hq := run_append_nil (P := P) w t ty e i z ht hi hz a m c news hl hnews hm (by omega) (by rw [Nat.zero_add] at hbytes; omega)
    rw [hr] at hq
    injection hq with e1 e2
    exact Or.inr (by rw [e1]; rfl)
  · by_cases hroom : n + m ≤ cap
    · have hq := run_append_room (P := P) w t ty e i ht hi g n cap cur hg a m c news hl hnews h1 hroom (by rw [hl, hcs, ← Nat.add_mul]; exact Nat.mul_le_mul_right _ hroom)
      rw [hr] at hq
      injection hq with e1 e2
      exact Or.inl (by rw [e1]; rfl)
    · have hq := run_append_grow (P := P) w t ty e i z ht hi hz ⟨g, 0, none⟩ n cap xs hown'.1 (hown'.cells (g := g) rfl) a m c news hl hnews (by omega) (by omega) (growslice_fits (by omega) hbytes)
      rw [hr] at hq
      injection hq with e1 e2
      exact Or.inr (by rw [e1]; rfl)
theorem append_where {P : Program} (w : World) {ops : Array Oper} {rest : List Oper} {o : Oper} {a : Act} {Q : Exit → Act → World → Prop} (hgd : o.guard = none) (s x : Operand) (t : TypeId)
    (ho : o.op = .call { callee := .builtin .append, args := #[s, x], argTypes := #[t, t] })
    (base : Nat) (e : TypeId) (i : TypeInfo) (z : Value) (size bytes : Nat) (ht : P.underlying t = some (.slice e)) (hi : P.info? e = some i) (hz : i.zero = some z)
    (hsize : i.size = size) (hby : i.bytes = bytes) (hzs : z.cells.size = size) (hsz : 0 < size) (v : Value) (n : Nat) (xs : List Value) (hs : a.eval s = v) (hown : w.ownsRow base e size v n xs)
    (ad : Addr) (m c : Nat) (news : List Value) (hx : a.eval x = .slice (some ad) m c) (hl : news.length = m * size) (hnews : ∀ j u, news[j]? = some u → w.cell? (ad.add j) = some u) (h1 : ∀ u ∈ news, u.oneCell' = true) (hm : 0 < m)
    (h63 : n + m ≤ maxLen) (hbytes : (n + m) * bytes ≤ 140737488355328) (hbase : base ≤ w.heap.size)
    (h : ∀ v' w', w'.ownsRow base e size v' (n + m) (xs ++ news) → w.grownBy w' v.ownBlock → (v'.ownBlock = v.ownBlock ∨ v'.ownBlock = some w.heap.size) → wpList P ops Q rest (a.put o.dst v') w') : wpList P ops Q (o :: rest) a w := by
  refine wpList_plain hgd fun K' hK' => ?_
  obtain ⟨v', w', hr, r1, r2, r3⟩ := run_where (P := P) w base t o.type e i z size bytes ht hi hz hsize hby hzs hsz v n xs hown ad m c news hl hnews h1 hm h63 hbytes hbase
  unfold Oper.wp
  simp [execOp, ho, resolve, invoke, builtin, hs, hx, hr, Result.andThen]
  exact hK' _ _ (h v' w' r1 r2 r3)
end Go.Proofs.YtegaakgmfphcaaaGreatDoor.Apw

/-
  PLAIN FACTS on slices of bytes that a call makes out of a text, or builds byte by byte, and on reading them back as a text.
-/
namespace Go.Proofs.YtegaakgmfphcaaaGreatDoor.Bys
open Go Go.RowKit
set_option linter.unusedVariables false
set_option maxRecDepth 1000000

theorem info_byte : (Tryz.prog.info? 5).map (fun i => (i.zero, i.size, i.bytes)) = some (some (.int .u8 0), 1, 1) := by kernel_rfl
def bvl (c : UInt8) : Value := .int .u8 (c.toNat : Int)
def bvs (l : List UInt8) : List Value := l.map bvl
theorem bvs_len (l : List UInt8) : (bvs l).length = l.length := by unfold bvs; simp
theorem bvs_more (l : List UInt8) (c : UInt8) : bvs (l ++ [c]) = bvs l ++ [bvl c] := by unfold bvs; simp
theorem bvl_one (c : UInt8) : ∀ u ∈ [bvl c], u.oneCell' = true := by intro u hu; simp at hu; subst hu; rfl
theorem ret_str {a b : List UInt8} (h : a = b) : Ending.returned (.string ⟨a.toArray⟩) = .returned (.string ⟨b.toArray⟩) := by rw [h]

/-- Block g holds these bytes, from its head on; they can be written. -/
def BAt (w : World) (g : Nat) (l : List UInt8) : Prop := g < w.heap.size ∧ ∀ j, j < l.length → w.cell? ⟨g, j, none⟩ = some (bvl (l.getD j 0)) ∧ w.frozen? ⟨g, j, none⟩ = false
theorem of_string (s : ByteArray) (w : World) : ∃ cap w1, (convert 9 22 (.string s)).run Tryz.prog w = .ok (.slice (some ⟨w.heap.size, 0, none⟩) s.size cap) w1 ∧ BAt w1 w.heap.size s.data.toList ∧ Below w.heap.size w w1 := by
  refine ⟨_, _, run_bytes_of_string w 9 22 5 s Tryz.underlying9 Tryz.underlying22 Tryz.underlying5, ⟨by simp, fun j hj => ?_⟩, (Below.refl _ _).drew.alloc (Nat.le_refl _) _⟩
  have hj' : j < s.data.size := by simpa using hj
  have hc := World.cell?_alloc_mark w.drew (bytesRow s (grownCap w s.size 0 5)) 5 ((bytesRow s (grownCap w s.size 0 5)).size, (bytesRow s (grownCap w s.size 0 5)).size + 1) j
  have hf := World.frozen?_alloc_mark w.drew (bytesRow s (grownCap w s.size 0 5)) 5 (bytesRow s (grownCap w s.size 0 5)).size ((bytesRow s (grownCap w s.size 0 5)).size + 1) j
  have hsz : j < (bytesRow s (grownCap w s.size 0 5)).size := by unfold bytesRow; rw [Array.size_append, Array.size_map]; omega
  refine ⟨?_, ?_⟩
  · refine (hc : _).trans ?_
    rw [bytesRow_at s _ j hj']
    have : s.data.toList.getD j 0 = s.data[j] := by simp [List.getD, Array.getElem?_eq_getElem hj']
    rw [this]; rfl
  · refine (hf : _).trans ?_
    simp; omega
theorem back (w : World) (g cap : Nat) (l : List UInt8) (h : BAt w g l) : (convert 22 9 (.slice (some ⟨g, 0, none⟩) l.length cap)).run Tryz.prog w = .ok (.string ⟨l.toArray⟩) w := by
  refine run_convert_bytes_back (P := Tryz.prog) w 22 9 5 ⟨g, 0, none⟩ cap l Tryz.underlying22 Tryz.underlying5 Tryz.underlying9 (fun j hj => ?_)
  rw [WideShapes.add_plain, Nat.zero_add, (h.2 j hj).1]
  simp [List.getD, hj, bvl]
theorem bat_set {w : World} {g k : Nat} {l : List UInt8} (c : UInt8) (h : BAt w g l) (hk : k < l.length) : BAt (w.setCell ⟨g, k, none⟩ (bvl c)) g (l.set k c) := by
  refine ⟨by simpa [World.setCell] using h.1, fun j hj => ?_⟩
  rw [List.length_set] at hj
  rw [World.frozen?_setCell]
  refine ⟨?_, (h.2 j hj).2⟩
  by_cases e : j = k
  · subst e
    rw [World.cell?_setCell_same' _ _ _ (by rw [(h.2 j hj).1]; rfl)]
    simp [List.getD, hj]
  · rw [World.cell?_setCell_other _ _ _ _ (by intro h'; apply e; injection h' with _ h2; exact h2.symm)]
    rw [(h.2 j hj).1]
    simp [List.getD, hj, List.getElem?_set, show ¬ k = j from fun h' => e h'.symm]
theorem bat_below {w w' : World} {B g : Nat} {l : List UInt8} (h : BAt w g l) (hb : Below B w w') (hg : g < B) : BAt w' g l :=
  ⟨Nat.lt_of_lt_of_le h.1 hb.size, fun j hj => ⟨(hb.cell (p := ⟨g, j, none⟩) hg).trans (h.2 j hj).1, (hb.frozen (p := ⟨g, j, none⟩) hg).trans (h.2 j hj).2⟩⟩
theorem bat_drew {w : World} {g : Nat} {l : List UInt8} (h : BAt w g l) : BAt w.drew g l := h
theorem below_set {B : Nat} {a w : World} {g k : Nat} (u : Value) (h : Below B a w) (hg : B ≤ g) : Below B a (w.setCell ⟨g, k, none⟩ u) := h.setCell hg _

/-! bytes put one behind another -/
abbrev Own (w : World) (B : Nat) (v : Value) (l : List UInt8) : Prop := w.ownsRow B 5 1 v l.length (bvs l)
theorem news_one (w : World) (x : Value) (T : TypeId) : ∀ j u, [x][j]? = some u → (w.alloc (.cells #[x] T)).cell? ((⟨w.heap.size, 0, none⟩ : Addr).add j) = some u := by
  intro j u hj
  match j, hj with
  | 0, hj =>
    simp at hj; subst hj
    show World.cell? _ ⟨w.heap.size, 0 + 0, none⟩ = _
    rw [World.cell?_alloc_new]; simp
theorem push_own {B : Nat} {a w w1 : World} {v v' : Value} {l : List UInt8} {c : UInt8} {o : Obj} (hown : Own w B v l) (hb : Below a.heap.size a w) (hB : a.heap.size ≤ B)
    (h' : w1.ownsRow B 5 1 v' (l.length + 1) (bvs l ++ [bvl c])) (hg : (w.alloc o).grownBy w1 v.ownBlock) :
    Own w1 B v' (l ++ [c]) ∧ Below a.heap.size a w1 := by
  refine ⟨by show w1.ownsRow B 5 1 v' (l ++ [c]).length (bvs (l ++ [c])); rw [List.length_append, bvs_more]; exact h', (hb.alloc hb.size o).grown hg (by have := hb.size; simp; omega) (fun k e => Nat.le_trans hB (hown.lt k e).1)⟩
theorem own_lit_nil (w : World) : Own (w.alloc (.cells #[] 5)) w.heap.size (.slice (some ⟨w.heap.size, 0, none⟩) 0 0) [] := World.ownsRow_lit w #[] 0 (Nat.le_refl _) (by decide) rfl
theorem own_lit_one (w : World) (c : UInt8) : Own (w.alloc (.cells #[bvl c] 5)) w.heap.size (.slice (some ⟨w.heap.size, 0, none⟩) 1 1) [c] := World.ownsRow_lit w #[bvl c] 1 (Nat.le_refl _) (by decide) rfl
/-- A slice of bytes that the call has built, read as a text. -/
theorem own_str {w : World} {B : Nat} {v : Value} {l : List UInt8} (h : Own w B v l) : (convert 22 9 v).run Tryz.prog w = .ok (.string ⟨l.toArray⟩) w := by
  have h' := h
  rcases h.2 with ⟨rfl, h0⟩ | ⟨g, cap, cur, rfl, _⟩
  · have : l = [] := List.eq_nil_of_length_eq_zero (by omega)
    subst this
    exact run_convert_bytes_nil w 22 5 Tryz.underlying22 Tryz.underlying5 0 0 9 Tryz.underlying9
  · refine run_convert_bytes_back (P := Tryz.prog) w 22 9 5 ⟨g, 0, none⟩ cap l Tryz.underlying22 Tryz.underlying5 Tryz.underlying9 (fun j hj => ?_)
    rw [WideShapes.add_plain, Nat.zero_add, h'.cellAt j (by omega)]
    simp [bvs, hj, bvl]
end Go.Proofs.YtegaakgmfphcaaaGreatDoor.Bys

/-
  PLAIN FACTS on a text whose first bytes are in lower case.
-/
namespace Go.Proofs.YtegaakgmfphcaaaGreatDoor.Tx
open Go Go.RowKit Bys
set_option linter.unusedVariables false
set_option maxRecDepth 1000000

/-- The first k bytes are in lower case. -/
def lowk (l : List UInt8) (k : Nat) : List UInt8 := (l.take k).map lowc ++ l.drop k
theorem lowk_zero (l : List UInt8) : lowk l 0 = l := by unfold lowk; simp
theorem lowk_len (l : List UInt8) (k : Nat) : (lowk l k).length = l.length := by unfold lowk; simp; omega
theorem getD_at {l : List UInt8} {k : Nat} (h : k < l.length) : l.getD k 0 = l[k] := by simp [List.getD, h]
theorem lowk_at {l : List UInt8} {k : Nat} (h : k < l.length) : (lowk l k).getD k 0 = l.getD k 0 := by
  unfold lowk
  rw [List.getD, List.getElem?_append_right (by simp; omega)]
  simp [Nat.min_eq_left (Nat.le_of_lt h), h]
theorem lowk_more {l : List UInt8} {k : Nat} (h : k < l.length) : (lowk l k).set k (lowc (l.getD k 0)) = lowk l (k + 1) := by
  rw [getD_at h]
  unfold lowk
  rw [List.set_append_right _ _ (by simp; omega), List.take_succ_eq_append_getElem h, List.map_append, List.append_assoc, List.length_map, List.length_take, Nat.min_eq_left (Nat.le_of_lt h), Nat.sub_self, List.drop_eq_getElem_cons h, List.set_cons_zero]
  rfl
theorem lowk_same {l : List UInt8} {k : Nat} (h : k < l.length) (hc : upc (l.getD k 0) = false) : lowk l (k + 1) = lowk l k := by
  rw [getD_at h] at hc
  unfold lowk
  rw [List.take_succ_eq_append_getElem h, List.map_append, List.append_assoc, List.drop_eq_getElem_cons h]
  simp [lowc_no hc]
theorem lowk_all {l : List UInt8} {k : Nat} (h : k = l.length) : lowk l k = lower l := by unfold lowk lower; subst h; simp

end Go.Proofs.YtegaakgmfphcaaaGreatDoor.Tx

/-
  CONTRACT of the program's isUpper; the world stays as it was.
-/
namespace Go.Proofs.YtegaakgmfphcaaaGreatDoor.Tx
open Go Go.RowKit
set_option linter.unusedVariables false
set_option maxRecDepth 1000000

theorem ret_bool {a b : Bool} (h : a = b) : Ending.returned (.bool a) = .returned (.bool b) := by rw [h]
theorem up_yes (x : Int) (w : World) (h1 : 65 ≤ x) (h2 : x ≤ 90) : Calls Tryz.prog 53 #[.int .u8 x] w fun e w' => e = .returned (.bool true) ∧ w = w' := by
  go_enter Tryz.func53, Tryz.ntmps53
  go_wp2
  go_ret
  exact ⟨rfl, rfl⟩
theorem up_no (x : Int) (w : World) (h : x < 65 ∨ 90 < x) : Calls Tryz.prog 53 #[.int .u8 x] w fun e w' => e = .returned (.bool false) ∧ w = w' := by
  by_cases h1 : 65 ≤ x
  · have h2 : ¬ x ≤ 90 := by omega
    clear h
    go_enter Tryz.func53, Tryz.ntmps53
    go_wp2
    go_ret
    exact ⟨rfl, rfl⟩
  · clear h
    go_enter Tryz.func53, Tryz.ntmps53
    go_wp2
    go_ret
    exact ⟨rfl, rfl⟩

end Go.Proofs.YtegaakgmfphcaaaGreatDoor.Tx

/-
  CONTRACT of the program's LowerText: at every text it returns it with the letters A to Z as a to z; nothing that was there before is changed.
-/
namespace Go.Proofs.YtegaakgmfphcaaaGreatDoor.Tx
open Go Go.RowKit Bys
set_option linter.unusedVariables false
set_option maxRecDepth 1000000

set_option maxHeartbeats 1000000 in
theorem impl_lower (s : ByteArray) (w : World) (hs : s.size ≤ 9223372036854775806) :
    Calls Tryz.prog 27 #[.string s] w fun e w' => e = .returned (.string ⟨(lower s.data.toList).toArray⟩) ∧ Below w.heap.size w w' := by
  obtain ⟨cap, w1, hcv, hat, hb⟩ := of_string s w
  have HT := Lib.hid (And.intro hat hb)
  clear hat hb
  go_enter Tryz.func27, Tryz.ntmps27
  go_wp2
  clear hcv
  go_loopw [4, 5, 10] (fun x y i wr => ∃ k : Nat, k ≤ s.size ∧ i = .int .i64 k ∧ BAt wr w.heap.size (lowk s.data.toList k) ∧ Below w.heap.size w wr) (fun _ _ i _ => s.size - (intOf i).toNat)
  case atStart => exact ⟨0, Nat.zero_le _, rfl, by rw [lowk_zero]; exact HT.out.1, HT.out.2⟩
  case round =>
    clear HT
    obtain ⟨k, hk, rfl, hat, hb⟩ := hrel
    have hL := list_len s
    by_cases hlt : k < s.size
    · have hlt' : k < s.data.toList.length := by omega
      have hcell := (hat.2 k (by rw [lowk_len]; exact hlt')).1
      have hfz := (hat.2 k (by rw [lowk_len]; exact hlt')).2
      rw [lowk_at hlt'] at hcell
      have HM := Lib.hid (lowk_more hlt')
      have HN := Lib.hid (lowk_same hlt')
      have HS := Lib.hid (bat_set (lowc (s.data.toList.getD k 0)) hat (by rw [lowk_len]; exact hlt'))
      have hub : ((s.data.toList.getD k 0).toNat : Int) ≤ 255 := by have := (s.data.toList.getD k 0).toNat_lt; omega
      have hub0 : 0 ≤ ((s.data.toList.getD k 0).toNat : Int) := by omega
      have HB := Lib.hid hb
      have HA := Lib.hid hat
      have HK := Lib.hid (show (k + 1 : Nat) ≤ s.size by omega)
      clear hlt' hL hb hat
      generalize s.data.toList.getD k 0 = c at *
      unfold bvl at hcell
      rcases hu : upc c with _ | _
      · have h1 : (c.toNat : Int) < 65 ∨ 90 < (c.toNat : Int) := by unfold upc at hu; simp at hu; omega
        have H1 := Lib.hid h1
        have HU := Lib.hid hu
        clear h1 hu
        go_wp2_with (go_at_call 53; (with_reducible refine (up_no _ _ H1.out).mono ?_); rintro e w' ⟨rfl, rfl⟩)
        go_roundw
        case rel => exact ⟨k + 1, HK.out, by go_num, by rw [HN.out HU.out]; exact HA.out, HB.out⟩
        case measure => simp [intOf]; omega
      · have h1 : 65 ≤ (c.toNat : Int) := by unfold upc at hu; simp at hu; omega
        have h2 : (c.toNat : Int) ≤ 90 := by unfold upc at hu; simp at hu; omega
        have hs : (c.toNat : Int) - 65 + 97 = ((lowc c).toNat : Int) := by rw [lowc_up hu]; omega
        clear hu
        go_wp2_with (go_at_call 53; (with_reducible refine (up_yes _ _ h1 h2).mono ?_); rintro e w' ⟨rfl, rfl⟩)
        go_roundw
        case rel => exact ⟨k + 1, HK.out, by go_num, by rw [← HM.out]; exact HS.out, below_set _ HB.out (Nat.le_refl _)⟩
        case measure => simp [intOf]; omega
    · have HE := Lib.hid (lowk_all (l := s.data.toList) (k := k) (by omega))
      have hbk := back wr w.heap.size cap (lowk s.data.toList k) hat
      rw [lowk_len, hL] at hbk
      have HB := Lib.hid hb
      clear hat hL hb
      go_wp2
      go_ret
      exact ⟨ret_str HE.out, HB.out⟩
end Go.Proofs.YtegaakgmfphcaaaGreatDoor.Tx

/-
  PLAIN FACTS OF NUMBERS that the contracts of chapter 1 lean on: remainder and quotient rounded down, and Go's own. No word of the program stands here.
-/
namespace Go.Proofs.YtegaakgmfphcaaaGreatDoor.NumDiv
open Go Go.RowKit
set_option linter.unusedVariables false
set_option maxRecDepth 1000000

/-- Go's remainder, made not negative; 0 for a divisor out of range. -/
def md (n m : Int) : Int := if 1 ≤ m ∧ m ≤ 1000000000000 then n % m else 0
/-- the quotient rounded down; 0 for a divisor out of range. -/
def fd (n m : Int) : Int := if 1 ≤ m ∧ m ≤ 1000000000000 then n / m else 0

theorem md_out {n m : Int} (h : m < 1 ∨ 1000000000000 < m) : md n m = 0 := by unfold md; rw [if_neg (by omega)]
theorem fd_out {n m : Int} (h : m < 1 ∨ 1000000000000 < m) : fd n m = 0 := by unfold fd; rw [if_neg (by omega)]
theorem md_in {n m : Int} (h : 1 ≤ m) (h2 : m ≤ 1000000000000) : md n m = n % m := by unfold md; rw [if_pos ⟨h, h2⟩]
theorem fd_in {n m : Int} (h : 1 ≤ m) (h2 : m ≤ 1000000000000) : fd n m = n / m := by unfold fd; rw [if_pos ⟨h, h2⟩]

theorem tmod_bd (n m : Int) (h : 1 ≤ m) : -m < n.tmod m ∧ n.tmod m < m := by
  constructor
  · exact Int.lt_tmod_of_pos n (by omega)
  · exact Int.tmod_lt_of_pos n (by omega)
theorem tmod_split (n m : Int) (h : 1 ≤ m) : n.tmod m = n % m ∨ (0 < n % m ∧ n.tmod m = n % m - m) := by
  have e := Int.tmod_eq_emod (a := n) (b := m)
  have p := Int.emod_nonneg n (show m ≠ 0 by omega)
  by_cases c : 0 ≤ n ∨ m ∣ n
  · rw [if_pos c] at e; left; rw [e]; simp
  · rw [if_neg c] at e
    right
    have hz : n % m ≠ 0 := fun z => c (Or.inr (Int.dvd_of_emod_eq_zero z))
    exact ⟨by omega, by omega⟩
theorem tmod_neg_emod {n m : Int} (h : 1 ≤ m) (hr : n.tmod m < 0) : n.tmod m + m = n % m := by
  have p := Int.emod_nonneg n (show m ≠ 0 by omega)
  rcases tmod_split n m h with e | ⟨_, e⟩ <;> omega
theorem tmod_pos_emod {n m : Int} (h : 1 ≤ m) (hr : 0 ≤ n.tmod m) : n.tmod m = n % m := by
  have p := Int.emod_lt_of_pos n (show 0 < m by omega)
  rcases tmod_split n m h with e | ⟨_, e⟩ <;> omega
theorem tdiv_neg {n m : Int} (h : 1 ≤ m) (hr : n.tmod m < 0) : n.tdiv m - 1 = n / m := by
  have e := tmod_neg_emod h hr
  have a := Int.mul_tdiv_add_tmod n m
  have b := Int.mul_ediv_add_emod n m
  have : m * (n.tdiv m - 1) = m * (n / m) := by rw [Int.mul_sub]; omega
  exact Int.eq_of_mul_eq_mul_left (show m ≠ 0 by omega) this
theorem tdiv_pos {n m : Int} (h : 1 ≤ m) (hr : 0 ≤ n.tmod m) : n.tdiv m = n / m := by
  have e := tmod_pos_emod h hr
  have a := Int.mul_tdiv_add_tmod n m
  have b := Int.mul_ediv_add_emod n m
  have : m * (n.tdiv m) = m * (n / m) := by omega
  exact Int.eq_of_mul_eq_mul_left (show m ≠ 0 by omega) this

theorem q_bd' (n m : Int) (h : 1 ≤ m) (a : -9223372036854775808 ≤ n) (b : n ≤ 9223372036854775807) : -9223372036854775808 ≤ n / m ∧ n / m ≤ 9223372036854775807 := by
  constructor
  · refine Int.le_ediv_of_mul_le (by omega) ?_
    have : (-9223372036854775808 : Int) * m ≤ -9223372036854775808 * 1 := Int.mul_le_mul_of_nonpos_left (by omega) h
    omega
  · by_cases z : 0 ≤ n
    · have := Int.ediv_le_self m z; omega
    · have := Int.ediv_neg_of_neg_of_pos (show n < 0 by omega) (show 0 < m by omega); omega
theorem q_bd (n m : Int) (h : 1 ≤ m) (a : -9223372036854775808 ≤ n) (b : n ≤ 9223372036854775807) : -9223372036854775808 ≤ n.tdiv m ∧ n.tdiv m ≤ 9223372036854775807 := by
  have c := q_bd' n m h a b
  by_cases hr : n.tmod m < 0
  · have d := tdiv_neg h hr
    have e : n < 0 := by
      by_cases z : 0 ≤ n
      · have := Int.tmod_nonneg m z; omega
      · omega
    have := Int.ediv_neg_of_neg_of_pos e (show 0 < m by omega)
    omega
  · rw [tdiv_pos h (by omega)]; exact c
theorem ret_int {k : IntKind} {a b : Int} (h : a = b) : Ending.returned (.int k a) = .returned (.int k b) := by rw [h]
end Go.Proofs.YtegaakgmfphcaaaGreatDoor.NumDiv

/-
  CONTRACT of the model's small test l1In: whether a number lies between two others; the world stays as it was.
-/
namespace Go.Proofs.YtegaakgmfphcaaaGreatDoor.NumDiv
open Go Go.RowKit
set_option linter.unusedVariables false
set_option maxRecDepth 1000000

theorem in_yes (x lo hi : Int) (w : World) (h1 : lo ≤ x) (h2 : x ≤ hi) :
    Calls Tryz.prog 86 #[.int .i64 x, .int .i64 lo, .int .i64 hi] w fun e w' => e = .returned (.bool true) ∧ w = w' := by
  go_enter Tryz.func86, Tryz.ntmps86
  go_wp2
  go_ret
  exact ⟨rfl, rfl⟩
theorem in_no (x lo hi : Int) (w : World) (h : x < lo ∨ hi < x) :
    Calls Tryz.prog 86 #[.int .i64 x, .int .i64 lo, .int .i64 hi] w fun e w' => e = .returned (.bool false) ∧ w = w' := by
  by_cases h1 : lo ≤ x
  · have h2 : ¬ x ≤ hi := by omega
    clear h
    go_enter Tryz.func86, Tryz.ntmps86
    go_wp2
    go_ret
    exact ⟨rfl, rfl⟩
  · clear h
    go_enter Tryz.func86, Tryz.ntmps86
    go_wp2
    go_ret
    exact ⟨rfl, rfl⟩
end Go.Proofs.YtegaakgmfphcaaaGreatDoor.NumDiv

/-
  CONTRACT of the model's LowerText: at every text it returns it with the letters A to Z as a to z; nothing that was there before is changed.
-/
namespace Go.Proofs.YtegaakgmfphcaaaGreatDoor.Tx
open Go Go.RowKit Bys
set_option linter.unusedVariables false
set_option maxRecDepth 1000000

end Go.Proofs.YtegaakgmfphcaaaGreatDoor.Tx
