/-
  CONTRACTS of StoreSize, the model's and the program's; nothing that was there before is changed.
-/
import Derived.Test.YtggokmhdmnkoiaaSto
import Derived.Test.YtggokmhdmnkoiaaSpnSize
import Derived.Test.YtggokmhdmnkoiaaPcsSp
namespace Go.Proofs.Ytggokmhdmnkoiaa.Sto
open Go Go.RowKit
set_option linter.unusedVariables false
set_option maxRecDepth 1000000
set_option maxRecDepth 1000000

/-- The bytes of an entry's pieces, and those of a list of entries. -/
def esz (e : Enl.T) : Int := Spn.wsum (Pcs.spans e.eps)
def stz (l : List Enl.T) : Int := l.foldl (fun a e => RowKit.wrap64 (a + esz e)) 0
theorem stz_zero (l : List Enl.T) : stz (l.take 0) = 0 := by simp [stz]
theorem stz_more {l : List Enl.T} {k : Nat} (h : k < l.length) : stz (l.take (k + 1)) = RowKit.wrap64 (stz (l.take k) + esz (l.getD k Enl.nov)) := by
  unfold stz
  rw [List.take_succ_eq_append_getElem h, List.foldl_append, show l.getD k Enl.nov = l[k] by simp [List.getD, h]]; rfl
def NumEnd (n : Int) (w : World) (e : Ending) (w' : World) : Prop := e = .returned (.int .i64 n) ∧ Below w.heap.size w w'
theorem sl_f {w : World} {B : Nat} {v : Value} {l : List Flds.Fld} (h : Flds.Holds w B v l) : ∃ a n c, v = .slice a n c := by
  rcases h with ⟨_, a, cap, rfl⟩ | ⟨_, b, off, cap, rfl, _⟩ <;> exact ⟨_, _, _, rfl⟩
theorem sl_p {w : World} {B : Nat} {v : Value} {l : List Pcs.T} (h : Pcs.Holds w B v l) : ∃ a n c, v = .slice a n c := by
  rcases h with ⟨_, a, cap, rfl⟩ | ⟨_, b, off, cap, rfl, _⟩ <;> exact ⟨_, _, _, rfl⟩
theorem ret_int {a b : Int} (h : a = b) : Ending.returned (.int .i64 a) = .returned (.int .i64 b) := by rw [h]

set_option maxHeartbeats 4000000 in
theorem spec_stz (u : Value) (B : Nat) (l : List Enl.T) (w : World) (h : Enl.Holds w B u l) (hB : B ≤ w.heap.size) (hl : l.length ≤ 1048576) (ht : ∀ f ∈ l, Pcs.total f.eps ≤ 1048576) :
    Calls Try.prog 8 #[.agg #[u]] w (NumEnd (stz l) w) := by
  have HTT := Lib.hid ht
  rcases Nst.holds_cases h with ⟨rfl, a, cap, rfl⟩ | ⟨hp, b, off, cap, rfl, hbB, _, rows, h1, h2, h4⟩
  · have HB0 := Lib.hid ((Below.refl w.heap.size w).alloc (Nat.le_refl _) (.cells #[.slice a 0 cap] 29))
    go_enter Try.func8, Try.ntmps8
    go_wp2
    go_loop [3, 4] (fun n i => n = .int .i64 0 ∧ i = .int .i64 0) (fun _ i => 0)
    case atStart => exact ⟨rfl, rfl⟩
    case round =>
      obtain ⟨rfl, rfl⟩ := hrel
      go_wp2
      go_ret
      exact ⟨rfl, HB0.out⟩
  · have HB0 := Lib.hid ((Below.refl w.heap.size w).alloc (Nat.le_refl _) (.cells #[.slice (some ⟨b, off, none⟩) l.length cap] 29))
    have HBX := Lib.hid (fun W (hb : Below (w.alloc (.cells #[.slice (some ⟨b, off, none⟩) l.length cap] 29)).heap.size (w.alloc (.cells #[.slice (some ⟨b, off, none⟩) l.length cap] 29)) W) => (Kept.Box.new (w := w) (T := 29) (a := #[.slice (some ⟨b, off, none⟩) l.length cap])).below hb)
    have HC := Lib.hid h2
    have HRW := Lib.hid h4
    have HLN := Lib.hid h1
    clear h h1 h2 h4 ht
    go_enter Try.func8, Try.ntmps8
    go_wp2
    go_loopw [3, 4] (fun n i wr => ∃ k : Nat, k ≤ l.length ∧ i = .int .i64 (k : Int) ∧ n = .int .i64 (stz (l.take k)) ∧ Below (w.alloc (.cells #[.slice (some ⟨b, off, none⟩) l.length cap] 29)).heap.size (w.alloc (.cells #[.slice (some ⟨b, off, none⟩) l.length cap] 29)) wr) (fun _ i _ => l.length - (intOf i).toNat)
    case atStart => exact ⟨0, Nat.zero_le _, rfl, by rw [stz_zero], Below.refl _ _⟩
    case round =>
      obtain ⟨k, hk, rfl, rfl, hb⟩ := hrel
      have x0 := (HBX.out _ hb).cell 0 _ rfl
      have hbw : Below w.heap.size w wr := HB0.out.trans (hb.mono HB0.out.size)
      have HBW := Lib.hid hbw
      have HBR := Lib.hid hb
      by_cases hlt : k < l.length
      · have hA := Rec.at_below HC.out (hbw.mono (by omega)) hbB
        have hT := HTT.out _ (Rec.getD_mem (z := Enl.nov) hlt)
        have hrk := Enl.rd_below (hbw.mono hB) (HRW.out k hlt)
        have HM := Lib.hid (stz_more hlt)
        generalize l.getD k Enl.nov = f at hrk hT HM
        obtain ⟨ek, els, ec, el, eb, eps, en, ei, eg, eq⟩ := f
        obtain ⟨us, uu, up, hcs, hus, huu, hup⟩ := hrk
        unfold esz at HM
        dsimp only at hcs hup hT HM
        have cc5 : wr.cell? ⟨b, off + k * 10 + 5, none⟩ = some (up) := Nst.at_cell (i := 5) hA (by rw [HLN.out]; exact hlt) hcs rfl
        have hspl : (Pcs.spans eps).length ≤ 4194304 := by rw [Pcs.spans_len]; exact Nat.le_trans (Pcs.len_le_total eps) (by omega)
        have HSL := Lib.hid hspl
        have HS := Lib.hid (Pcs.spec_spans up B eps wr hup (Nat.le_trans hB hbw.size) hT)
        unfold Pcs.SpansEnd at HS
        generalize stz (l.take k) = n at HM ⊢
        have hki : (k : Int) < (l.length : Int) := by omega
        clear hb hbw hA hT hcs hus huu hup hspl
        go_wp2_with (fail)
        go_at_call 25
        refine HS.out.mono ?_
        rintro e w1 ⟨v, rfl, ho, hb1⟩
        have HO := Lib.hid (Spn.own_holds ho)
        have HR1 := Lib.hid (Base.then_below HBR.out hb1)
        clear ho hb1
        go_wp2_with (fail)
        go_at_call 24
        refine (Spn.spec_size v _ _ w1 HO.out (Nat.le_refl _) HSL.out).mono ?_
        rintro e w2 ⟨rfl, hb2⟩
        have HR2 := Lib.hid (Base.then_below HR1.out hb2)
        clear hb2
        go_wp2
        go_roundw
        case rel => exact ⟨k + 1, by omega, by go_num, by rw [HM.out], HR2.out⟩
        case measure => simp [intOf]; omega
      · have HE : Hid (stz (l.take k) = stz l) := Lib.hid (by rw [List.take_of_length_le (by omega)])
        clear hb hbw
        go_wp2
        go_ret
        exact ⟨ret_int HE.out, HBW.out⟩

set_option maxHeartbeats 4000000 in
theorem impl_stz (u : Value) (B : Nat) (l : List Enl.T) (w : World) (h : Enl.Holds w B u l) (hB : B ≤ w.heap.size) (hl : l.length ≤ 1048576) (ht : ∀ f ∈ l, Pcs.total f.eps ≤ 1048576) :
    Calls Try.prog 10 #[.agg #[u]] w (NumEnd (stz l) w) := by
  have HTT := Lib.hid ht
  rcases Nst.holds_cases h with ⟨rfl, a, cap, rfl⟩ | ⟨hp, b, off, cap, rfl, hbB, _, rows, h1, h2, h4⟩
  · have HB0 := Lib.hid ((Below.refl w.heap.size w).alloc (Nat.le_refl _) (.cells #[.slice a 0 cap] 29))
    go_enter Try.func10, Try.ntmps10
    go_wp2
    go_loop [3, 9] (fun n i => n = .int .i64 0 ∧ i = .int .i64 0) (fun _ i => 0)
    case atStart => exact ⟨rfl, rfl⟩
    case round =>
      obtain ⟨rfl, rfl⟩ := hrel
      go_wp2
      go_ret
      exact ⟨rfl, HB0.out⟩
  · have HB0 := Lib.hid ((Below.refl w.heap.size w).alloc (Nat.le_refl _) (.cells #[.slice (some ⟨b, off, none⟩) l.length cap] 29))
    have HBX := Lib.hid (fun W (hb : Below (w.alloc (.cells #[.slice (some ⟨b, off, none⟩) l.length cap] 29)).heap.size (w.alloc (.cells #[.slice (some ⟨b, off, none⟩) l.length cap] 29)) W) => (Kept.Box.new (w := w) (T := 29) (a := #[.slice (some ⟨b, off, none⟩) l.length cap])).below hb)
    have HC := Lib.hid h2
    have HRW := Lib.hid h4
    have HLN := Lib.hid h1
    clear h h1 h2 h4 ht
    go_enter Try.func10, Try.ntmps10
    go_wp2
    go_loopw [3, 9] (fun n i wr => ∃ k : Nat, k ≤ l.length ∧ i = .int .i64 (k : Int) ∧ n = .int .i64 (stz (l.take k)) ∧ Below (w.alloc (.cells #[.slice (some ⟨b, off, none⟩) l.length cap] 29)).heap.size (w.alloc (.cells #[.slice (some ⟨b, off, none⟩) l.length cap] 29)) wr) (fun _ i _ => l.length - (intOf i).toNat)
    case atStart => exact ⟨0, Nat.zero_le _, rfl, by rw [stz_zero], Below.refl _ _⟩
    case round =>
      obtain ⟨k, hk, rfl, rfl, hb⟩ := hrel
      have x0 := (HBX.out _ hb).cell 0 _ rfl
      have hbw : Below w.heap.size w wr := HB0.out.trans (hb.mono HB0.out.size)
      have HBW := Lib.hid hbw
      have HBR := Lib.hid hb
      by_cases hlt : k < l.length
      · have hA := Rec.at_below HC.out (hbw.mono (by omega)) hbB
        have hT := HTT.out _ (Rec.getD_mem (z := Enl.nov) hlt)
        have hrk := Enl.rd_below (hbw.mono hB) (HRW.out k hlt)
        have HM := Lib.hid (stz_more hlt)
        generalize l.getD k Enl.nov = f at hrk hT HM
        obtain ⟨ek, els, ec, el, eb, eps, en, ei, eg, eq⟩ := f
        obtain ⟨us, uu, up, hcs, hus, huu, hup⟩ := hrk
        obtain ⟨az, ns, cs1, rfl⟩ := sl_f hus
        obtain ⟨au, nu, cu, rfl⟩ := sl_f huu
        obtain ⟨ap, np, cp, rfl⟩ := sl_p hup
        unfold esz at HM
        dsimp only at hcs hup hT HM
        have cc0 : wr.cell? ⟨b, off + k * 10, none⟩ = some (.string ⟨ek.toArray⟩) := Nst.at_cell (i := 0) hA (by rw [HLN.out]; exact hlt) hcs rfl
        have cc1 : wr.cell? ⟨b, off + k * 10 + 1, none⟩ = some (.slice az ns cs1) := Nst.at_cell (i := 1) hA (by rw [HLN.out]; exact hlt) hcs rfl
        have cc2 : wr.cell? ⟨b, off + k * 10 + 2, none⟩ = some (.int .i64 ec) := Nst.at_cell (i := 2) hA (by rw [HLN.out]; exact hlt) hcs rfl
        have cc3 : wr.cell? ⟨b, off + k * 10 + 3, none⟩ = some (.slice au nu cu) := Nst.at_cell (i := 3) hA (by rw [HLN.out]; exact hlt) hcs rfl
        have cc4 : wr.cell? ⟨b, off + k * 10 + 4, none⟩ = some (.string ⟨eb.toArray⟩) := Nst.at_cell (i := 4) hA (by rw [HLN.out]; exact hlt) hcs rfl
        have cc5 : wr.cell? ⟨b, off + k * 10 + 5, none⟩ = some (.slice ap np cp) := Nst.at_cell (i := 5) hA (by rw [HLN.out]; exact hlt) hcs rfl
        have cc6 : wr.cell? ⟨b, off + k * 10 + 6, none⟩ = some (.int .i64 en) := Nst.at_cell (i := 6) hA (by rw [HLN.out]; exact hlt) hcs rfl
        have cc7 : wr.cell? ⟨b, off + k * 10 + 7, none⟩ = some (.int .i64 ei) := Nst.at_cell (i := 7) hA (by rw [HLN.out]; exact hlt) hcs rfl
        have cc8 : wr.cell? ⟨b, off + k * 10 + 8, none⟩ = some (.int .i64 eg) := Nst.at_cell (i := 8) hA (by rw [HLN.out]; exact hlt) hcs rfl
        have cc9 : wr.cell? ⟨b, off + k * 10 + 9, none⟩ = some (.int .i64 eq) := Nst.at_cell (i := 9) hA (by rw [HLN.out]; exact hlt) hcs rfl
        have hspl : (Pcs.spans eps).length ≤ 4194304 := by rw [Pcs.spans_len]; exact Nat.le_trans (Pcs.len_le_total eps) (by omega)
        have HSL := Lib.hid hspl
        have hbe := hbw.alloc hbw.size (.cells #[.string ⟨ek.toArray⟩, .slice az ns cs1, .int .i64 ec, .slice au nu cu, .string ⟨eb.toArray⟩, .slice ap np cp, .int .i64 en, .int .i64 ei, .int .i64 eg, .int .i64 eq] 58)
        have HBE := Lib.hid (hb.alloc hb.size (.cells #[.string ⟨ek.toArray⟩, .slice az ns cs1, .int .i64 ec, .slice au nu cu, .string ⟨eb.toArray⟩, .slice ap np cp, .int .i64 en, .int .i64 ei, .int .i64 eg, .int .i64 eq] 58))
        have HS := Lib.hid (Pcs.impl_spans (.slice ap np cp) B eps (wr.alloc (.cells #[.string ⟨ek.toArray⟩, .slice az ns cs1, .int .i64 ec, .slice au nu cu, .string ⟨eb.toArray⟩, .slice ap np cp, .int .i64 en, .int .i64 ei, .int .i64 eg, .int .i64 eq] 58)) (Pcs.holds_below hup (((Below.refl wr.heap.size wr).alloc (Nat.le_refl _) (.cells #[.string ⟨ek.toArray⟩, .slice az ns cs1, .int .i64 ec, .slice au nu cu, .string ⟨eb.toArray⟩, .slice ap np cp, .int .i64 en, .int .i64 ei, .int .i64 eg, .int .i64 eq] 58)).mono (Nat.le_trans hB hbw.size))) (Nat.le_trans hB hbe.size) hT)
        clear hbe
        unfold Pcs.SpansEnd at HS
        generalize stz (l.take k) = n at HM ⊢
        have hki : (k : Int) < (l.length : Int) := by omega
        clear hb hbw hA hT hcs hus huu hup hspl
        go_wp2_with (fail)
        go_at_call 28
        refine HS.out.mono ?_
        rintro e w1 ⟨v, rfl, ho, hb1⟩
        have HO := Lib.hid (Spn.own_holds ho)
        have HR1 := Lib.hid (Base.then_below HBE.out hb1)
        clear ho hb1
        go_wp2_with (fail)
        go_at_call 27
        refine (Spn.impl_size v _ _ w1 HO.out (Nat.le_refl _) HSL.out).mono ?_
        rintro e w2 ⟨rfl, hb2⟩
        have HR2 := Lib.hid (Base.then_below HR1.out hb2)
        clear hb2
        go_wp2
        go_roundw
        case rel => exact ⟨k + 1, by omega, by go_num, by rw [HM.out], HR2.out⟩
        case measure => simp [intOf]; omega
      · have HE : Hid (stz (l.take k) = stz l) := Lib.hid (by rw [List.take_of_length_le (by omega)])
        clear hb hbw
        go_wp2
        go_ret
        exact ⟨ret_int HE.out, HBW.out⟩
end Go.Proofs.Ytggokmhdmnkoiaa.Sto
