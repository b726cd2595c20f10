/-
  CONTRACTS AND PLAIN FACTS, several texts in one; each says in its own words what it proves.
-/
import Derived.Test.YtobhdfkhfmpdlaaDoorPartE
import Derived.Test.YtobhdfkhfmpdlaaDoorPartF
import Derived.Test.YtobhdfkhfmpdlaaDoorPartG
import Derived.Test.YtobhdfkhfmpdlaaDoorPartK
import Derived.Test.YtobhdfkhfmpdlaaDoorPartI
import Derived.Outline
import Derived.RegionTactic
import Derived.Deep.RegionWith
import Derived.Test.YtobhdfkhfmpdlaaDoorPartA
import Derived.LoopTactic
import Derived.Deep.QuietTactic
import Derived.BigQuiet
set_option linter.unusedSimpArgs false
set_option linter.unusedVariables false

/-
  CONTRACT of the program's JoinList: at every slice of texts that are not too long together it returns the texts with a comma and a space between them; nothing that was there before is changed.
-/
namespace Go.Proofs.YtobhdfkhfmpdlaaDoor.Tx
open Go Go.RowKit Strs
set_option linter.unusedVariables false
set_option maxRecDepth 1000000

theorem lib_join (v : Value) (B : Nat) (xs : List (List UInt8)) (w : World) (h : Holds w B v xs) (ht : total xs ≤ 67108864) :
    Calls Tryd.prog 73 #[v, .string ⟨#[44, 32]⟩] w (JoinEnd xs w) := by
  have hl : xs.length ≤ 67108864 := by unfold total at ht; omega
  rcases h with ⟨rfl, a, cap, rfl⟩ | ⟨h0, b, off, cap, rfl, _, hcap, hc⟩
  · refine (Tryd.strings_Join_none a cap ⟨#[44, 32]⟩ w).mono ?_
    rintro e w' ⟨rfl, rfl⟩
    exact ⟨rfl, Below.refl _ _⟩
  · have hm : (xs.map (fun x => (⟨x.toArray⟩ : ByteArray))).map (·.data.toList) = xs := by rw [List.map_map]; exact List.map_id'' (fun _ => rfl) xs
    have hlen : (Lib.join xs [44, 32]).length ≤ 140737488355328 := by
      have h1 := join_len xs xs.length (Nat.le_refl _)
      rw [List.take_length] at h1
      have h2 := pre_le xs xs.length
      have : (join xs).length = (Lib.join xs [44, 32]).length := rfl
      unfold total at ht; omega
    have c := Tryd.strings_Join b off cap (xs.map (fun x => (⟨x.toArray⟩ : ByteArray))) ⟨#[44, 32]⟩ w (fun j x hj => by
      rw [List.getElem?_map] at hj
      have hjl : j < xs.length := by
        rcases Nat.lt_or_ge j xs.length with h' | h'
        · exact h'
        · rw [List.getElem?_eq_none h'] at hj; cases hj
      rw [hc j hjl]
      rw [List.getElem?_eq_getElem hjl] at hj
      simp at hj; subst hj
      simp [List.getD, hjl, sv]) (at_lt hc h0) (by simp; omega) (by simpa using hcap) (by rw [hm]; exact hlen)
    rw [hm, List.length_map] at c
    exact c

theorem impl_join (v : Value) (B : Nat) (xs : List (List UInt8)) (w : World) (h : Holds w B v xs) (ht : total xs ≤ 67108864) :
    Calls Tryd.prog 36 #[v] w (JoinEnd xs w) := by
  have c1 := lib_join v B xs w h ht
  unfold JoinEnd at c1 ⊢
  generalize (⟨(join xs).toArray⟩ : ByteArray) = z at c1 ⊢
  clear h
  go_enter Tryd.func36, Tryd.ntmps36
  go_wp2_with (go_at_call 73; refine c1.mono ?_; rintro e w1 ⟨rfl, hb⟩)
  go_ret
  exact ⟨rfl, hb⟩
end Go.Proofs.YtobhdfkhfmpdlaaDoor.Tx

/-
  CONTRACT of the program's FormatDirectives: the directives' texts, joined; nothing that was there before is changed.
-/
namespace Go.Proofs.YtobhdfkhfmpdlaaDoor.Dir
open Go Go.RowKit
set_option linter.unusedVariables false
set_option maxRecDepth 1000000

set_option maxHeartbeats 1000000 in
theorem impl_dtx (x y : List UInt8) (z : Bool) (w : World) (hl : x.length + y.length ≤ 1048576) :
    Calls Tryd.prog 35 #[.agg #[.string ⟨x.toArray⟩, .string ⟨y.toArray⟩, .bool z]] w (Txt (dtx (x, y, z)) w) := by
  cases z with
  | false =>
    go_enter Tryd.func35, Tryd.ntmps35
    go_wp2
    go_ret
    exact ⟨rfl, (Below.refl _ _).alloc (Nat.le_refl _) _⟩
  | true =>
    have hsy : (⟨y.toArray⟩ : ByteArray).size = y.length := by simp [ByteArray.size]
    have a1 := Tx.addtwo x [61] (by simp only [List.length_cons, List.length_nil]; omega)
    have HT := Lib.hid (fun W => Tx.impl_token ⟨y.toArray⟩ W (by rw [hsy]; omega))
    cases hz : Tx.token y with
    | true =>
      have HE := Lib.hid (dtx_tok (x := x) hz)
      have a2 := Tx.addtwo (x ++ [61]) y (by simp only [List.length_append, List.length_cons, List.length_nil]; omega)
      generalize hx1 : x ++ [61] = x1 at a1 a2 HE
      generalize hx2 : x1 ++ y = x2 at a2 HE
      clear hx1 hx2
      have HZ : Hid (Tx.token (⟨y.toArray⟩ : ByteArray).data.toList = true) := Lib.hid hz
      clear hz hsy
      go_enter Tryd.func35, Tryd.ntmps35
      go_wp2_with (fail)
      go_at_call 64
      refine (HT.out _).mono ?_
      rintro e w1 ⟨he, rfl⟩
      rw [HZ.out] at he
      subst he
      go_wp2
      go_ret
      exact ⟨ret_txt HE.out.symm, (Below.refl _ _).alloc (Nat.le_refl _) _⟩
    | false =>
      have HE := Lib.hid (dtx_quo (x := x) hz)
      have HQ : Hid (∀ W : World, Calls Tryd.prog 72 #[.string ⟨y.toArray⟩] W fun e w' => e = .returned (.string ⟨(Tx.quo y).toArray⟩) ∧ Below W.heap.size W w') := Lib.hid (fun W => Tx.impl_quote ⟨y.toArray⟩ W (by rw [hsy]; omega))
      have hq := quo_len y
      generalize Tx.quo y = r at HE HQ hq
      have a2 := Tx.addtwo (x ++ [61]) r (by simp only [List.length_append, List.length_cons, List.length_nil]; omega)
      generalize hx1 : x ++ [61] = x1 at a1 a2 HE
      generalize hx2 : x1 ++ r = x2 at a2 HE
      clear hx1 hx2 hq
      have HZ : Hid (Tx.token (⟨y.toArray⟩ : ByteArray).data.toList = false) := Lib.hid hz
      clear hz hsy
      have HB : Hid (∀ (W w1 : World), Below (W.alloc (.cells #[.string ⟨x.toArray⟩, .string ⟨y.toArray⟩, .bool true] 29)).heap.size (W.alloc (.cells #[.string ⟨x.toArray⟩, .string ⟨y.toArray⟩, .bool true] 29)) w1 → Below W.heap.size W w1 ∧ w1.cell? ⟨W.heap.size, 0, none⟩ = some (.string ⟨x.toArray⟩) ∧ w1.cell? ⟨W.heap.size, 1, none⟩ = some (.string ⟨y.toArray⟩)) := Lib.hid (fun W w1 h => by
        refine ⟨((Below.refl _ _).alloc (Nat.le_refl _) _).trans (h.mono (by simp)), ?_, ?_⟩
        · rw [h.cell (p := ⟨W.heap.size, 0, none⟩) (by simp), World.cell?_alloc_new]; rfl
        · rw [h.cell (p := ⟨W.heap.size, 1, none⟩) (by simp), World.cell?_alloc_new]; rfl)
      go_enter Tryd.func35, Tryd.ntmps35
      go_wp2_with (fail)
      go_at_call 64
      refine (HT.out _).mono ?_
      rintro e w1 ⟨he, rfl⟩
      rw [HZ.out] at he
      subst he
      go_wp2
      go_region_with (go_at_call 72; refine (HQ.out _).mono ?_; rintro e w1 ⟨rfl, hb1⟩; have h2 := HB.out _ _ (Rec.below_of_drew hb1); have hc1 := h2.2.1; have hc2 := h2.2.2; have HBB := Lib.hid h2.1; clear hb1 h2)
      all_goals go_wp2
      all_goals go_ret
      all_goals exact ⟨ret_txt HE.out.symm, HBB.out⟩

set_option maxHeartbeats 2000000 in
theorem impl_fmt (v : Value) (B : Nat) (l : List T) (w : World) (h : Holds w B v l) (hB : B ≤ w.heap.size) (hl : total l ≤ 1048576) :
    Calls Tryd.prog 9 #[v] w (Txt (fmt l) w) := by
  obtain ⟨i0, hi, hz0, hz1, hz2⟩ := info_parts Strs.info_str
  have hll : l.length ≤ 1048576 := Nat.le_trans (len_le_total l) hl
  have HT := Lib.hid hl
  have hshape : ∃ a cap, v = .slice a l.length cap ∧ (0 < l.length → ∃ b off, a = some ⟨b, off, none⟩ ∧ b < w.heap.size ∧ At w b off l) := by
    rcases h with ⟨rfl, a, cap, rfl⟩ | ⟨h0, b, off, cap, rfl, hb, _, hc⟩
    · exact ⟨a, cap, rfl, fun h => by simp at h⟩
    · exact ⟨_, cap, rfl, fun _ => ⟨b, off, rfl, by omega, hc⟩⟩
  obtain ⟨a, cap, rfl, ha⟩ := hshape
  have HA := Lib.hid ha
  have HO := Lib.hid (Strs.own_lit_nil w)
  clear ha h hl
  go_enter Tryd.func9, Tryd.ntmps9
  go_wp2
  go_loopw [3, 9] (fun u i wr => ∃ k : Nat, k ≤ l.length ∧ i = .int .i64 (k : Int) ∧ Strs.Own wr w.heap.size u (dtxs (l.take k)) ∧ Below w.heap.size w wr) (fun _ i _ => l.length - (intOf i).toNat)
  case atStart => exact ⟨0, Nat.zero_le _, rfl, by rw [List.take_zero]; exact HO.out, (Below.refl _ _).alloc (Nat.le_refl _) _⟩
  case round =>
    clear HO
    obtain ⟨k, hk, rfl, hown, hb⟩ := hrel
    by_cases hlt : k < l.length
    · obtain ⟨b, off, rfl, hbw, hc⟩ := HA.out (by omega)
      obtain ⟨c0, c1, c2⟩ := at_cells (at_below hc hb hbw) hlt
      have HM := Lib.hid (dtxs_more hlt)
      have HLE : Hid ((l.getD k nov).1.length + (l.getD k nov).2.1.length ≤ 1048576) := Lib.hid (Nat.le_trans (at_le hlt) HT.out)
      have HDL : Hid ((dtxs (l.take k)).length ≤ 1048576) := Lib.hid (by rw [dtxs_len, List.length_take]; omega)
      clear hc
      generalize l.getD k nov = f at c0 c1 c2 HM HLE
      obtain ⟨x, y, z⟩ := f
      dsimp only at c0 c1 c2
      generalize dtxs (l.take k) = ds at hown HM HDL
      have HB := Lib.hid hb
      have HOA := Lib.hid hown
      clear hown hb
      go_wp2_with (fail)
      go_at_call 35
      refine (impl_dtx x y z _ HLE.out).mono ?_
      rintro e w1 ⟨rfl, hb1⟩
      have hba : Below wr.heap.size wr w1 := ((Below.refl _ _).alloc (Nat.le_refl _) _).trans (hb1.mono (by simp))
      have hown := Rec.row_below HOA.out hba
      have HB1 := Lib.hid (Base.then_below HB.out hba)
      clear hb1 hba
      generalize hd : dtx (x, y, z) = t at HM
      clear hd
      have hL := Strs.svs_len ds
      go_wp2_with (at_builtin; refine wpList_append_own _ rfl (.tmp 13) (.tmp 16) 52 rfl w.heap.size 9 i0 (.string ⟨#[]⟩) 1 16 Tryd.underlying52 hi hz0 hz1 hz2 rfl (by decide) _ _ _ rfl (hown.alloc _) ⟨w1.heap.size, 0, none⟩ 1 1 [.string ⟨t.toArray⟩] rfl rfl (Strs.news_one _ _ _) (Strs.sv_one t) (by have := HDL.out; unfold maxLen; omega) (by have := HDL.out; omega) (by have := HB1.out.size; simp; omega) ?_; intro v1 w2 hown1 hg1 _)
      have R := Lib.hid (Strs.push_own (x := t) hown HB1.out (Nat.le_refl _) hown1 hg1)
      clear hown hown1 hg1
      go_wp2
      go_roundw
      case rel => exact ⟨k + 1, by omega, by go_num, by rw [HM.out]; exact R.out.1, R.out.2⟩
      case measure => simp [intOf]; omega
    · have HE : Hid (dtxs (l.take k) = dtxs l) := Lib.hid (by rw [List.take_of_length_le (by omega)])
      obtain ⟨a', cp', rfl, _⟩ := Rec.shape_at hown
      have HJ := Lib.hid (Tx.impl_join _ _ (dtxs (l.take k)) wr (Strs.own_holds hown) (by rw [HE.out]; have := dtxs_total l; have := HT.out; omega))
      have HB := Lib.hid hb
      clear hown hb
      go_wp2_with (fail)
      go_at_call 36
      refine HJ.out.mono ?_
      rintro e w1 ⟨rfl, hb1⟩
      go_wp2
      go_ret
      exact ⟨ret_txt (by unfold fmt; rw [HE.out]), Base.then_below HB.out hb1⟩
end Go.Proofs.YtobhdfkhfmpdlaaDoor.Dir

/-
  CONTRACTS of the program's Min and Max.
-/
namespace Go.Proofs.YtobhdfkhfmpdlaaDoor.Mm
open Go Go.RowKit
set_option linter.unusedVariables false
set_option maxRecDepth 1000000
theorem ret_int {a b : Int} (h : a = b) : Ending.returned (.int .i64 a) = .returned (.int .i64 b) := by rw [h]
theorem impl_min (a b : Int) (w : World) : Calls Tryd.prog 75 #[.int .i64 a, .int .i64 b] w fun e w' => e = .returned (.int .i64 (min a b)) ∧ w = w' := by
  by_cases h : a ≤ b
  · have HE := Lib.hid (show a = min a b by omega)
    go_enter Tryd.func75, Tryd.ntmps75
    go_wp2
    all_goals go_ret
    all_goals exact ⟨ret_int (by omega), rfl⟩
  · go_enter Tryd.func75, Tryd.ntmps75
    go_wp2
    all_goals go_ret
    all_goals exact ⟨ret_int (by omega), rfl⟩
end Go.Proofs.YtobhdfkhfmpdlaaDoor.Mm

/-
  CONTRACTS of the model's Min.
-/
namespace Go.Proofs.YtobhdfkhfmpdlaaDoor.Mm
theorem ret_int2 {a b : Int} (h : a = b) : Go.Ending.returned (.int .i64 a) = .returned (.int .i64 b) := by rw [h]
open Go Go.RowKit
set_option linter.unusedVariables false
set_option maxRecDepth 1000000
end Go.Proofs.YtobhdfkhfmpdlaaDoor.Mm

/-
  CONTRACTS of SecondsOf, the model's and the program's: the seconds that the first directive with a name has as its value; nothing that was there before is changed.
-/
namespace Go.Proofs.YtobhdfkhfmpdlaaDoor.Dir
open Go Go.RowKit
set_option linter.unusedVariables false
set_option maxRecDepth 1000000

theorem str_empty {z : ByteArray} (h : z.data.toList = []) : z = ⟨#[]⟩ := by
  have : z.data = #[] := by simpa using h
  exact ByteArray.ext this
theorem dg_range {c : UInt8} (h : dg c = true) : (48 : Int) ≤ (c.toNat : Int) ∧ (c.toNat : Int) ≤ 57 := by
  have : 48 ≤ c.toNat ∧ c.toNat ≤ 57 := by simpa [dg] using h
  omega
theorem dg_out {c : UInt8} (h : dg c = false) : decide ((48 : Int) ≤ (c.toNat : Int) ∧ (c.toNat : Int) ≤ 57) = false := by
  have : ¬ (48 ≤ c.toNat ∧ c.toNat ≤ 57) := by simpa [dg] using h
  simp; omega
theorem dg_in {c : UInt8} (h : dg c = true) : decide ((48 : Int) ≤ (c.toNat : Int) ∧ (c.toNat : Int) ≤ 57) = true := by
  have := dg_range h; simp; omega

set_option maxHeartbeats 1000000 in
theorem read_seconds (s : ByteArray) (w : World) (hs : s.size ≤ 1048576) :
    Calls Tryd.prog 39 #[.string s] w fun e w' => e = .returned (.int .i64 (secs s.data.toList)) ∧ Below w.heap.size w w' := by
  have hcon := Tryd.strings_Trim_laid s ⟨#[48, 49, 50, 51, 52, 53, 54, 55, 56, 57]⟩ w (Nat.le_trans hs (by decide)) (by decide) (ascii_of_all (by decide))
  change Calls Tryd.prog 74 _ _ (fun e w' => e = .returned (.string ⟨(Lib.trimS s.data.toList digs).toArray⟩) ∧ Below w.heap.size w w') at hcon
  rcases ha : s.data.toList.all dg with _ | _
  · have hne : Lib.trimS s.data.toList digs ≠ [] := by
      intro e; rw [(trim_digs _).1 e] at ha; cases ha
    have HE := Lib.hid (secs_no ha)
    generalize Lib.trimS s.data.toList digs = t at hcon hne
    obtain ⟨c, r, rfl⟩ := List.exists_cons_of_ne_nil hne
    clear hne ha
    go_enter Tryd.func39, Tryd.ntmps39
    go_wp2_with (fail)
    go_at_call 74
    refine hcon.mono ?_
    rintro e w1 ⟨rfl, hb1⟩
    have HB := Lib.hid hb1
    clear hb1
    go_wp2
    go_ret
    exact ⟨ret_int HE.out.symm, HB.out⟩
  · rw [(trim_digs _).2 ha] at hcon
    have HE := Lib.hid (secs_all ha)
    have HA := Lib.hid ha
    clear ha
    go_enter Tryd.func39, Tryd.ntmps39
    go_wp2_with (fail)
    go_at_call 74
    refine hcon.mono ?_
    rintro e w1 ⟨rfl, hb1⟩
    have HB := Lib.hid hb1
    clear hb1 hcon
    go_wp2
    go_loop [3, 10] (fun n i => ∃ k : Nat, k ≤ s.size ∧ i = .int .i64 (k : Int) ∧ n = .int .i64 (srun (s.data.toList.take k))) (fun _ i => s.size - (intOf i).toNat)
    case atStart => exact ⟨0, Nat.zero_le _, rfl, rfl⟩
    case round =>
      obtain ⟨k, hk, rfl, rfl⟩ := hrel
      by_cases hlt : k < s.size
      · have hpre : (s.data.toList.take k).all dg = true := by
          rw [List.all_eq_true]; intro x hx; exact List.all_eq_true.1 HA.out x (List.mem_of_mem_take hx)
        have hbd := srun_bd _ hpre
        have hc : dg s[k] = true := by
          have hm : s[k] ∈ s.data.toList := by
            have : s[k] = s.data.toList[k]'(by rw [Array.length_toList]; exact hlt) := rfl
            rw [this]; exact List.getElem_mem _
          exact List.all_eq_true.1 HA.out _ hm
        have hcr := dg_range hc
        have HM : Hid (srun (s.data.toList.take (k + 1)) = sst (srun (s.data.toList.take k)) s[k]) := Lib.hid (by rw [Tx.take_snoc s k hlt, srun_more])
        clear hpre hc
        generalize srun (s.data.toList.take k) = n at hbd HM
        obtain ⟨n1, n2⟩ := hbd
        obtain ⟨r1, r2⟩ := hcr
        go_wp2_with (fail)
        go_at_call 75
        refine (Mm.impl_min _ _ _).mono ?_
        rintro e w2 ⟨rfl, rfl⟩
        go_wp2
        go_round
        case rel => exact ⟨k + 1, by omega, by go_num, by rw [HM.out]; rfl⟩
        case measure => simp [intOf]; omega
      · go_wp2
        go_ret
        exact ⟨ret_int (by rw [HE.out, List.take_of_length_le (by rw [Tx.list_len]; omega)]), HB.out⟩

theorem holds_shape {w : World} {B : Nat} {v : Value} {l : List T} (h : Holds w B v l) : ∃ a cap, v = .slice a l.length cap ∧ (0 < l.length → ∃ b off, a = some ⟨b, off, none⟩ ∧ b < B ∧ l.length ≤ cap ∧ At w b off l) := by
  rcases h with ⟨rfl, a, cap, rfl⟩ | ⟨h0, b, off, cap, rfl, hb, hcap, hc⟩
  · exact ⟨a, cap, rfl, fun h => by simp at h⟩
  · exact ⟨_, cap, rfl, fun _ => ⟨b, off, rfl, hb, hcap, hc⟩⟩

set_option maxHeartbeats 1000000 in
theorem impl_sec (v : Value) (B : Nat) (l : List T) (n : List UInt8) (w : World) (h : Holds w B v l) (hB : B ≤ w.heap.size) (hl : l.length ≤ 4194304) (hx : ∀ d ∈ l, d.2.1.length ≤ 1048576) :
    Calls Tryd.prog 12 #[v, .string ⟨n.toArray⟩] w (SecEnd n l w) := by
  have HH := Lib.hid (impl_find _ B l n w h hl)
  unfold FindEnd at HH
  unfold SecEnd
  obtain ⟨a, cap, rfl, ha⟩ := holds_shape h
  have HA := Lib.hid ha
  clear ha h
  rcases at1_cases n l with h1 | ⟨k, hk, h1⟩
  · have HS := Lib.hid (sof_no h1)
    rw [h1] at HH
    rw [HS.out]
    clear h1
    go_enter Tryd.func12, Tryd.ntmps12
    go_wp2_with (fail)
    go_at_call 37
    refine HH.out.mono ?_
    rintro e w1 ⟨rfl, hb⟩
    have HB := Lib.hid hb
    clear hb
    go_wp2
    go_ret2
    exact ⟨rfl, HB.out⟩
  · have HS := Lib.hid (sof_at h1)
    rw [h1] at HH
    rw [HS.out]
    obtain ⟨b, off, rfl, hbw, hcap, hc⟩ := HA.out (by omega)
    have HX : Hid ((l.getD k nov).2.1.length ≤ 1048576) := Lib.hid (hx _ (Rec.getD_mem hk))
    have HC := Lib.hid (And.intro hc (Nat.lt_of_lt_of_le hbw hB))
    obtain ⟨y, hy⟩ : ∃ y, y = (l.getD k nov).2.1 := ⟨_, rfl⟩
    rw [← hy] at HX ⊢
    have HY := Lib.hid hy
    clear h1 hx hc hbw hy
    go_enter Tryd.func12, Tryd.ntmps12
    go_wp2_with (fail)
    go_at_call 37
    refine HH.out.mono ?_
    rintro e w1 ⟨rfl, hb⟩
    obtain ⟨c0, c1, c2⟩ := at_cells (at_below HC.out.1 hb HC.out.2) hk
    have HB := Lib.hid hb
    rw [← HY.out] at c1
    clear hb c0 c2
    have HR := Lib.hid (read_seconds ⟨y.toArray⟩ w1 (by simp [ByteArray.size]; exact HX.out))
    simp only at HR
    go_wp2_with (fail)
    go_at_call 39
    refine HR.out.mono ?_
    rintro e w2 ⟨rfl, hb⟩
    have HB2 := Lib.hid (Base.then_below HB.out hb)
    clear hb
    go_wp2
    go_ret2
    exact ⟨rfl, HB2.out⟩

theorem ret_sec {a b : Int} (h : a = b) : Ending.returned (.tuple #[.int .i64 a, .bool true]) = .returned (.tuple #[.int .i64 b, .bool true]) := by rw [h]

end Go.Proofs.YtobhdfkhfmpdlaaDoor.Dir

/-
  A REGION THAT DRAWS ITS ORDER, ALSO ONE WITH CALLS THAT MAKE MEMORY: one walk, in the order of the text, in whatever world of a class S that each call keeps.
-/
namespace Go.Proofs.YtobhdfkhfmpdlaaDoor.RegS
open Go Go.RowKit
set_option linter.unusedVariables false
set_option maxRecDepth 1000000

/-- A world of the class. -/
structure In (S : World → Prop) where
  w : World
  h : S w
theorem region {P : Program} {id : Nat} {Q : Exit → Act → World → Prop} {a : Act} {w : World} {l : List Oper} (S : World → Prop) (hm : P.follows .mixedOrders = true) (hB : Region.lexB .any l.toArray = true) (hS : S w.drew)
    (h : wpQuiet P l.toArray (fun w' => ∃ u : In S, w' = u.w) (fun a' => ∀ w', (∃ u : In S, w' = u.w) → Q .normal a' w') l a) : (Code.region id l.toArray true).wp P Q a w :=
  wp_region_quiet (C := fun w' => ∃ u : In S, w' = u.w) hm hB ⟨⟨w.drew, hS⟩, rfl⟩ (by simpa using h)
theorem call {P : Program} {f : FuncId} {args : Array Value} {S : World → Prop} {u : In S} {v : Value} {E : Ending → World → Prop}
    (h : Calls P f args u.w E) (hE : ∀ e w', E e w' → e = .returned v ∧ S w') : Calls P f args u.w fun e w'' => e = .returned v ∧ ∃ m : In S, w'' = m.w :=
  h.mono fun e w' he => ⟨(hE e w' he).1, ⟨w', (hE e w' he).2⟩, rfl⟩
end Go.Proofs.YtobhdfkhfmpdlaaDoor.RegS
