/-
  CONTRACTS AND PLAIN FACTS, several texts in one; each says in its own words what it proves.
-/
import Derived.Test.YtjjelbijbbnmcaaGreatDoorPartAH

/-
  CONTRACT of the model's IsEntry, for the code 200; nothing that was there before is changed.
-/
namespace Go.Proofs.YtjjelbijbbnmcaaGreatDoor.Ent
open Go Go.RowKit
set_option linter.unusedVariables false
set_option maxRecDepth 1000000

set_option maxHeartbeats 16000000 in
theorem spec_ent200 (k : List UInt8) (s : Value) (ls : List Flds.Fld) (u : Value) (l : List Flds.Fld) (b : List UInt8) (p : Value) (ps : List Pcs.T) (n i g q : Int) (B : Nat) (w : World) (hs : Flds.Holds w B s ls) (hu : Flds.Holds w B u l) (hp : Pcs.Holds w B p ps) (hB : B ≤ w.heap.size) (hls : Flds.total ls ≤ 1048576) (hl : Flds.total l ≤ 1048576) (hbl : b.length ≤ 1048576) (hps : Pcs.total ps ≤ 1048576) (hkl : k.length ≤ 1048576) :
    Calls Tryz.prog 5 #[.agg #[.string ⟨k.toArray⟩, s, .int .i64 200, u, .string ⟨b.toArray⟩, p, .int .i64 n, .int .i64 i, .int .i64 g, .int .i64 q]] w (BoolEnd (entOk k ls 200 l b ps n i g q) w) := by
  have hll : l.length ≤ 1048576 := by unfold Flds.total at hl; omega
  obtain ⟨a, cap, rfl, _⟩ := Flds.shape_any hu
  have hgl := Flds.got_len Age.dateN l
  have hb0 : Below w.heap.size w ((w.alloc (.cells #[.string ⟨k.toArray⟩, s, .int .i64 200, (.slice a l.length cap), .string ⟨b.toArray⟩, p, .int .i64 n, .int .i64 i, .int .i64 g, .int .i64 q] 35)).alloc (.cells #[.int .i64 200, (.slice a l.length cap), .string ⟨b.toArray⟩] 32)) := (((Below.refl _ _).alloc (Nat.le_refl _) _).alloc (by simp) _)
  have hbx := (Kept.Box.new (w := w) (T := 35) (a := #[.string ⟨k.toArray⟩, s, .int .i64 200, (.slice a l.length cap), .string ⟨b.toArray⟩, p, .int .i64 n, .int .i64 i, .int .i64 g, .int .i64 q])).alloc (.cells #[.int .i64 200, (.slice a l.length cap), .string ⟨b.toArray⟩] 32)
  have hby := Kept.Box.new (w := (w.alloc (.cells #[.string ⟨k.toArray⟩, s, .int .i64 200, (.slice a l.length cap), .string ⟨b.toArray⟩, p, .int .i64 n, .int .i64 i, .int .i64 g, .int .i64 q] 35))) (T := 32) (a := #[.int .i64 200, (.slice a l.length cap), .string ⟨b.toArray⟩])
  rw [show (w.alloc (.cells #[.string ⟨k.toArray⟩, s, .int .i64 200, (.slice a l.length cap), .string ⟨b.toArray⟩, p, .int .i64 n, .int .i64 i, .int .i64 g, .int .i64 q] 35)).heap.size = w.heap.size + 1 by simp] at hby
  have HS0 : Hid (EntU w [.string ⟨k.toArray⟩, s, .int .i64 200, (.slice a l.length cap), .string ⟨b.toArray⟩, p, .int .i64 n, .int .i64 i, .int .i64 g, .int .i64 q] [.int .i64 200, (.slice a l.length cap), .string ⟨b.toArray⟩] ((w.alloc (.cells #[.string ⟨k.toArray⟩, s, .int .i64 200, (.slice a l.length cap), .string ⟨b.toArray⟩, p, .int .i64 n, .int .i64 i, .int .i64 g, .int .i64 q] 35)).alloc (.cells #[.int .i64 200, (.slice a l.length cap), .string ⟨b.toArray⟩] 32))) := Lib.hid ⟨⟨hbx, hby⟩, Lib.hid hb0⟩
  have SK : Hid (∀ w0 w1 : World, EntU w [.string ⟨k.toArray⟩, s, .int .i64 200, (.slice a l.length cap), .string ⟨b.toArray⟩, p, .int .i64 n, .int .i64 i, .int .i64 g, .int .i64 q] [.int .i64 200, (.slice a l.length cap), .string ⟨b.toArray⟩] w0 → Below w0.heap.size w0 w1 → EntU w [.string ⟨k.toArray⟩, s, .int .i64 200, (.slice a l.length cap), .string ⟨b.toArray⟩, p, .int .i64 n, .int .i64 i, .int .i64 g, .int .i64 q] [.int .i64 200, (.slice a l.length cap), .string ⟨b.toArray⟩] w1) := Lib.hid (fun _ _ h hb => entu_call h hb)
  have HG : Hid (∀ x, EntU w [.string ⟨k.toArray⟩, s, .int .i64 200, (.slice a l.length cap), .string ⟨b.toArray⟩, p, .int .i64 n, .int .i64 i, .int .i64 g, .int .i64 q] [.int .i64 200, (.slice a l.length cap), .string ⟨b.toArray⟩] x → Calls Tryz.prog 13 #[(.slice a l.length cap), .string ⟨Age.dateN.toArray⟩] x (Flds.GotEnd (Flds.got Age.dateN l) x)) := Lib.hid (fun x hx => Flds.spec_lget (.slice a l.length cap) B l Age.dateN x (Flds.holds_below hu (hx.2.out.mono hB)) (by omega))
  have HPD : Hid (∀ x, EntU w [.string ⟨k.toArray⟩, s, .int .i64 200, (.slice a l.length cap), .string ⟨b.toArray⟩, p, .int .i64 n, .int .i64 i, .int .i64 g, .int .i64 q] [.int .i64 200, (.slice a l.length cap), .string ⟨b.toArray⟩] x → Calls Tryz.prog 12 #[.string ⟨(Flds.got Age.dateN l).toArray⟩] x (Dt.PdEnd (Dt.pdate (Flds.got Age.dateN l)) x)) := Lib.hid (fun x _ => Dt.spec_pdate (Flds.got Age.dateN l) x (by omega))
  have HVB : Hid (∀ x, EntU w [.string ⟨k.toArray⟩, s, .int .i64 200, (.slice a l.length cap), .string ⟨b.toArray⟩, p, .int .i64 n, .int .i64 i, .int .i64 g, .int .i64 q] [.int .i64 200, (.slice a l.length cap), .string ⟨b.toArray⟩] x → Calls Tryz.prog 14 #[.agg #[.int .i64 200, (.slice a l.length cap), .string ⟨b.toArray⟩]] x (BoolEnd (Msg.rspOk 200 l b) x)) := Lib.hid (fun x hx => Msg.spec_isr 200 (.slice a l.length cap) B l b x (Flds.holds_below hu (hx.2.out.mono hB)) (Nat.le_trans hB hx.2.out.size) hl hbl)
  have HLF : Hid (∀ x, EntU w [.string ⟨k.toArray⟩, s, .int .i64 200, (.slice a l.length cap), .string ⟨b.toArray⟩, p, .int .i64 n, .int .i64 i, .int .i64 g, .int .i64 q] [.int .i64 200, (.slice a l.length cap), .string ⟨b.toArray⟩] x → Calls Tryz.prog 16 #[(.slice a l.length cap)] x (Flds.FilterEnd (still l) x)) := Lib.hid (fun x hx => spec_still (.slice a l.length cap) B l x (Flds.holds_below hu (hx.2.out.mono hB)) hll)
  have HSM : Hid (∀ v3 B3 x, EntU w [.string ⟨k.toArray⟩, s, .int .i64 200, (.slice a l.length cap), .string ⟨b.toArray⟩, p, .int .i64 n, .int .i64 i, .int .i64 g, .int .i64 q] [.int .i64 200, (.slice a l.length cap), .string ⟨b.toArray⟩] x → Flds.Holds x B3 v3 (still l) → Calls Tryz.prog 15 #[(.slice a l.length cap), v3] x (Flds.SameEnd l (still l) x)) := Lib.hid (fun v3 B3 x hx h3 => Flds.spec_same (.slice a l.length cap) v3 B B3 l (still l) x (Flds.holds_below hu (hx.2.out.mono hB)) h3 hll (Nat.le_trans (still_le l) hll))
  have HA : Hid (∀ x, EntU w [.string ⟨k.toArray⟩, s, .int .i64 200, (.slice a l.length cap), .string ⟨b.toArray⟩, p, .int .i64 n, .int .i64 i, .int .i64 g, .int .i64 q] [.int .i64 200, (.slice a l.length cap), .string ⟨b.toArray⟩] x → Calls Tryz.prog 17 #[s] x (BoolEnd (Flds.fldsOk ls) x)) := Lib.hid (fun x hx => Flds.spec_are s B ls x (Flds.holds_below hs (hx.2.out.mono hB)) (Nat.le_trans hB hx.2.out.size) hls)
  have HP : Hid (∀ x, EntU w [.string ⟨k.toArray⟩, s, .int .i64 200, (.slice a l.length cap), .string ⟨b.toArray⟩, p, .int .i64 n, .int .i64 i, .int .i64 g, .int .i64 q] [.int .i64 200, (.slice a l.length cap), .string ⟨b.toArray⟩] x → Calls Tryz.prog 18 #[p, .int .i64 n] x (BoolEnd (Pcs.arep ps n) x)) := Lib.hid (fun x hx => Pcs.spec_are p B ps n x (Pcs.holds_below hp (hx.2.out.mono hB)) (Nat.le_trans hB hx.2.out.size) hps)
  have HW : Hid (∀ x, EntU w [.string ⟨k.toArray⟩, s, .int .i64 200, (.slice a l.length cap), .string ⟨b.toArray⟩, p, .int .i64 n, .int .i64 i, .int .i64 g, .int .i64 q] [.int .i64 200, (.slice a l.length cap), .string ⟨b.toArray⟩] x → Calls Tryz.prog 19 #[p, .int .i64 n] x (BoolEnd (Pcs.whole ps n) x)) := Lib.hid (fun x hx => Pcs.spec_whole p B ps n x (Pcs.holds_below hp (hx.2.out.mono hB)) (Nat.le_trans hB hx.2.out.size) hps)
  have HE : Hid (entOk k ls 200 l b ps n i g q = (headOk 200 l b && (Flds.fldsOk ls && (decide (k.length ≤ 160) && (Pcs.arep ps n && ((decide (200 = 200) || Pcs.whole ps n) && (decide (0 ≤ i ∧ i ≤ 2147483648) && (decide (0 ≤ g ∧ g ≤ 4102444799) && decide (0 ≤ q ∧ q ≤ 1000000000000))))))))) := Lib.hid rfl
  have hh : headOk 200 l b = (Msg.rspOk 200 l b && (decide (b = []) && ((Age.din Age.dateN l).2 && decide (l = still l)))) := by unfold headOk; simp
  rw [hh] at HE
  unfold Age.din at HE
  clear hh
  unfold Flds.GotEnd at HG
  unfold Dt.PdEnd at HPD
  unfold Flds.FilterEnd at HLF
  unfold Flds.SameEnd at HSM
  unfold BoolEnd at HVB HA HP HW ⊢
  generalize entOk k ls 200 l b ps n i g q = z at HE ⊢
  generalize Dt.pdate (Flds.got Age.dateN l) = dd at HPD HE
  obtain ⟨dt, dk⟩ := dd
  simp only at HPD HE
  generalize Msg.rspOk 200 l b = vb at HVB HE
  generalize Flds.fldsOk ls = fb at HA HE
  generalize Pcs.arep ps n = ab at HP HE
  generalize Pcs.whole ps n = wb at HW HE
  generalize still l = sl at HLF HSM HE
  have hkz : (⟨k.toArray⟩ : ByteArray).size = k.length := by simp [ByteArray.size]
  unfold Age.dateN at HG
  clear hbx hby hb0 hs hu hp hls hl hbl hps
  go_enter Tryz.func5, Tryz.ntmps5
  go_wp2_with (fail)
  go_at_call 13
  refine (HG.out _ HS0.out).mono ?_
  rintro e w1 ⟨rfl, hb1⟩
  have HS1 := Lib.hid (SK.out _ _ HS0.out hb1)
  clear hb1
  go_wp2_with (fail)
  go_at_call 12
  refine (HPD.out _ HS1.out).mono ?_
  rintro e w2 ⟨rfl, hb2⟩
  have HS2 := Lib.hid (SK.out _ _ HS1.out hb2)
  clear hb2
  have HSD : Hid ((EntU w [.string ⟨k.toArray⟩, s, .int .i64 200, (.slice a l.length cap), .string ⟨b.toArray⟩, p, .int .i64 n, .int .i64 i, .int .i64 g, .int .i64 q] [.int .i64 200, (.slice a l.length cap), .string ⟨b.toArray⟩]) w2.drew) := Lib.hid ⟨⟨HS2.out.1.1.below (Rec.below_drew (Below.refl _ _)), HS2.out.1.2.below (Rec.below_drew (Below.refl _ _))⟩, Lib.hid (Rec.below_drew HS2.out.2.out)⟩
  have f0 : ∀ x : RegS.In (EntU w [.string ⟨k.toArray⟩, s, .int .i64 200, (.slice a l.length cap), .string ⟨b.toArray⟩, p, .int .i64 n, .int .i64 i, .int .i64 g, .int .i64 q] [.int .i64 200, (.slice a l.length cap), .string ⟨b.toArray⟩]), x.w.cell? ⟨w.heap.size + 1, 0, none⟩ = some (.int .i64 200) := fun x => x.h.1.2.cell 0 _ rfl
  have f1 : ∀ x : RegS.In (EntU w [.string ⟨k.toArray⟩, s, .int .i64 200, (.slice a l.length cap), .string ⟨b.toArray⟩, p, .int .i64 n, .int .i64 i, .int .i64 g, .int .i64 q] [.int .i64 200, (.slice a l.length cap), .string ⟨b.toArray⟩]), x.w.cell? ⟨w.heap.size + 1, 1, none⟩ = some (.slice a l.length cap) := fun x => x.h.1.2.cell 1 _ rfl
  have f2 : ∀ x : RegS.In (EntU w [.string ⟨k.toArray⟩, s, .int .i64 200, (.slice a l.length cap), .string ⟨b.toArray⟩, p, .int .i64 n, .int .i64 i, .int .i64 g, .int .i64 q] [.int .i64 200, (.slice a l.length cap), .string ⟨b.toArray⟩]), x.w.cell? ⟨w.heap.size + 1, 2, none⟩ = some (.string ⟨b.toArray⟩) := fun x => x.h.1.2.cell 2 _ rfl
  cases vb with
  | false =>
    have HF : Hid (z = false) := Lib.hid (by rw [HE.out]; simp [*])
    clear HE
    go_wp2
    refine RegS.region (EntU w [.string ⟨k.toArray⟩, s, .int .i64 200, (.slice a l.length cap), .string ⟨b.toArray⟩, p, .int .i64 n, .int .i64 i, .int .i64 g, .int .i64 q] [.int .i64 200, (.slice a l.length cap), .string ⟨b.toArray⟩]) (by kernel_rfl) (by kernel_rfl) HSD.out ?_
    haveI : Nonempty (RegS.In (EntU w [.string ⟨k.toArray⟩, s, .int .i64 200, (.slice a l.length cap), .string ⟨b.toArray⟩, p, .int .i64 n, .int .i64 i, .int .i64 g, .int .i64 q] [.int .i64 200, (.slice a l.length cap), .string ⟨b.toArray⟩])) := ⟨⟨_, HSD.out⟩⟩
    repeat (first | go_big_quiet_step ((go_at_call 14; with_reducible exact RegS.call (HVB.out _ (RegS.In.h _)) (fun e w' he => ⟨he.1, SK.out _ _ (RegS.In.h _) he.2⟩))) | quiet_step ((go_at_call 14; with_reducible exact RegS.call (HVB.out _ (RegS.In.h _)) (fun e w' he => ⟨he.1, SK.out _ _ (RegS.In.h _) he.2⟩))))
    refine wpQuiet_nil ?_
    intro _ hw'
    obtain ⟨⟨wz, hS⟩, hw''⟩ := hw'
    subst hw''
    have HBB := Lib.hid hS.2.out
    clear hS
    go_wp2
    go_ret
    exact ⟨ret_b HF.out.symm, HBB.out⟩
  | true =>
  by_cases hbe : b = []
  case neg =>
    have hbd := decide_eq_false hbe
    have hbq : (b == []) = false := by simpa using hbe
    clear hbe
    have HF : Hid (z = false) := Lib.hid (by rw [HE.out]; simp [*])
    clear HE
    go_wp2
    refine RegS.region (EntU w [.string ⟨k.toArray⟩, s, .int .i64 200, (.slice a l.length cap), .string ⟨b.toArray⟩, p, .int .i64 n, .int .i64 i, .int .i64 g, .int .i64 q] [.int .i64 200, (.slice a l.length cap), .string ⟨b.toArray⟩]) (by kernel_rfl) (by kernel_rfl) HSD.out ?_
    haveI : Nonempty (RegS.In (EntU w [.string ⟨k.toArray⟩, s, .int .i64 200, (.slice a l.length cap), .string ⟨b.toArray⟩, p, .int .i64 n, .int .i64 i, .int .i64 g, .int .i64 q] [.int .i64 200, (.slice a l.length cap), .string ⟨b.toArray⟩])) := ⟨⟨_, HSD.out⟩⟩
    repeat (first | go_big_quiet_step ((go_at_call 14; with_reducible exact RegS.call (HVB.out _ (RegS.In.h _)) (fun e w' he => ⟨he.1, SK.out _ _ (RegS.In.h _) he.2⟩))) | quiet_step ((go_at_call 14; with_reducible exact RegS.call (HVB.out _ (RegS.In.h _)) (fun e w' he => ⟨he.1, SK.out _ _ (RegS.In.h _) he.2⟩))))
    refine wpQuiet_nil ?_
    intro _ hw'
    obtain ⟨⟨wz, hS⟩, hw''⟩ := hw'
    subst hw''
    have HBB := Lib.hid hS.2.out
    clear hS
    go_wp2
    go_ret
    exact ⟨ret_b HF.out.symm, HBB.out⟩
  subst hbe
  cases dk with
  | false =>
    have HF : Hid (z = false) := Lib.hid (by rw [HE.out]; simp [*])
    clear HE
    go_wp2
    refine RegS.region (EntU w [.string ⟨k.toArray⟩, s, .int .i64 200, (.slice a l.length cap), .string ⟨[].toArray⟩, p, .int .i64 n, .int .i64 i, .int .i64 g, .int .i64 q] [.int .i64 200, (.slice a l.length cap), .string ⟨[].toArray⟩]) (by kernel_rfl) (by kernel_rfl) HSD.out ?_
    haveI : Nonempty (RegS.In (EntU w [.string ⟨k.toArray⟩, s, .int .i64 200, (.slice a l.length cap), .string ⟨[].toArray⟩, p, .int .i64 n, .int .i64 i, .int .i64 g, .int .i64 q] [.int .i64 200, (.slice a l.length cap), .string ⟨[].toArray⟩])) := ⟨⟨_, HSD.out⟩⟩
    repeat (first | go_big_quiet_step ((go_at_call 14; with_reducible exact RegS.call (HVB.out _ (RegS.In.h _)) (fun e w' he => ⟨he.1, SK.out _ _ (RegS.In.h _) he.2⟩))) | quiet_step ((go_at_call 14; with_reducible exact RegS.call (HVB.out _ (RegS.In.h _)) (fun e w' he => ⟨he.1, SK.out _ _ (RegS.In.h _) he.2⟩))))
    refine wpQuiet_nil ?_
    intro _ hw'
    obtain ⟨⟨wz, hS⟩, hw''⟩ := hw'
    subst hw''
    have HBB := Lib.hid hS.2.out
    clear hS
    go_wp2
    go_ret
    exact ⟨ret_b HF.out.symm, HBB.out⟩
  | true =>
  have HSX : Hid (∀ x, EntU w [.string ⟨k.toArray⟩, s, .int .i64 200, (.slice a l.length cap), .string ⟨[].toArray⟩, p, .int .i64 n, .int .i64 i, .int .i64 g, .int .i64 q] [.int .i64 200, (.slice a l.length cap), .string ⟨[].toArray⟩] x → (fun x => x.cell? ⟨w.heap.size + 1, 0, none⟩ = some (.int .i64 200) ∧ x.cell? ⟨w.heap.size + 1, 1, none⟩ = some (.slice a l.length cap) ∧ x.cell? ⟨w.heap.size + 1, 2, none⟩ = some (.string ⟨#[]⟩) ∧ Hid (EntU w [.string ⟨k.toArray⟩, s, .int .i64 200, (.slice a l.length cap), .string ⟨[].toArray⟩, p, .int .i64 n, .int .i64 i, .int .i64 g, .int .i64 q] [.int .i64 200, (.slice a l.length cap), .string ⟨[].toArray⟩] x)) x) := Lib.hid (fun x hx => ⟨hx.1.2.cell 0 _ rfl, hx.1.2.cell 1 _ rfl, hx.1.2.cell 2 _ rfl, Lib.hid hx⟩)
  clear f0 f1 f2
  go_wp2
  refine wp_region_held_drew (S := (fun x => x.cell? ⟨w.heap.size + 1, 0, none⟩ = some (.int .i64 200) ∧ x.cell? ⟨w.heap.size + 1, 1, none⟩ = some (.slice a l.length cap) ∧ x.cell? ⟨w.heap.size + 1, 2, none⟩ = some (.string ⟨#[]⟩) ∧ Hid (EntU w [.string ⟨k.toArray⟩, s, .int .i64 200, (.slice a l.length cap), .string ⟨[].toArray⟩, p, .int .i64 n, .int .i64 i, .int .i64 g, .int .i64 q] [.int .i64 200, (.slice a l.length cap), .string ⟨[].toArray⟩] x))) (by kernel_rfl) (HSX.out _ HSD.out) (fun hHeld => ?_)
  refine Held.take 0 ?_ rfl (by kernel_rfl) (by kernel_rfl) (by kernel_rfl) (fun _ _ _ h => h) (by assumption) (Or.inl ⟨by rfl, ?_⟩) ?_
  rotate_left
  · intro x hSw; (try dsimp only at hSw); go_simp; (try with_reducible rfl)
  try simp only [Act.put, List.setIfInBounds_toArray, List.set_cons_zero, List.set_cons_succ]
  refine Held.take 1 ?_ rfl (by kernel_rfl) (by kernel_rfl) (by kernel_rfl) (fun _ _ _ h => h) (by assumption) (Or.inl ⟨by rfl, ?_⟩) ?_
  rotate_left
  · intro x hSw; (try dsimp only at hSw); go_simp; (try with_reducible rfl)
  try simp only [Act.put, List.setIfInBounds_toArray, List.set_cons_zero, List.set_cons_succ]
  refine Held.take 2 ?_ rfl (by kernel_rfl) (by kernel_rfl) (by kernel_rfl) (fun _ _ _ h => h) (by assumption) (Or.inl ⟨by rfl, ?_⟩) ?_
  rotate_left
  · intro x hSw; (try dsimp only at hSw); go_simp; (try with_reducible rfl)
  try simp only [Act.put, List.setIfInBounds_toArray, List.set_cons_zero, List.set_cons_succ]
  refine Held.take 3 ?_ rfl (by kernel_rfl) (by kernel_rfl) (by kernel_rfl) (fun _ _ _ h => h) (by assumption) (Or.inl ⟨by rfl, ?_⟩) ?_
  rotate_left
  · intro x hSw; (try dsimp only at hSw); go_simp; (try with_reducible rfl)
  try simp only [Act.put, List.setIfInBounds_toArray, List.set_cons_zero, List.set_cons_succ]
  refine Held.take 4 undef rfl (by kernel_rfl) (by kernel_rfl) (by kernel_rfl) (fun _ _ _ h => h) (by assumption) (Or.inr ⟨by rfl, rfl⟩) ?_
  try simp only [Act.put, List.setIfInBounds_toArray, List.set_cons_zero, List.set_cons_succ]
  refine Held.take 5 undef rfl (by kernel_rfl) (by kernel_rfl) (by kernel_rfl) (fun _ _ _ h => h) (by assumption) (Or.inr ⟨by rfl, rfl⟩) ?_
  try simp only [Act.put, List.setIfInBounds_toArray, List.set_cons_zero, List.set_cons_succ]
  refine Held.take 6 undef rfl (by kernel_rfl) (by kernel_rfl) (by kernel_rfl) (fun _ _ _ h => h) (by assumption) (Or.inr ⟨by rfl, rfl⟩) ?_
  try simp only [Act.put, List.setIfInBounds_toArray, List.set_cons_zero, List.set_cons_succ]
  refine Held.take 7 ?_ rfl (by kernel_rfl) (by kernel_rfl) (by kernel_rfl) (fun _ _ _ h => h) (by assumption) (Or.inl ⟨by rfl, ?_⟩) ?_
  rotate_left
  · intro x hSw; (try dsimp only at hSw); go_simp; (try with_reducible rfl)
  try simp only [Act.put, List.setIfInBounds_toArray, List.set_cons_zero, List.set_cons_succ]
  refine Held.take 8 ?_ rfl (by kernel_rfl) (by kernel_rfl) (by kernel_rfl) (fun _ _ _ h => h) (by assumption) (Or.inl ⟨by rfl, ?_⟩) ?_
  rotate_left
  · intro x hSw; (try dsimp only at hSw); go_simp; (try with_reducible rfl)
  try simp only [Act.put, List.setIfInBounds_toArray, List.set_cons_zero, List.set_cons_succ]
  refine Held.take 9 undef rfl (by kernel_rfl) (by kernel_rfl) (by kernel_rfl) (fun _ _ _ h => h) (by assumption) (Or.inr ⟨by rfl, rfl⟩) ?_
  try simp only [Act.put, List.setIfInBounds_toArray, List.set_cons_zero, List.set_cons_succ]
  refine Held.take 10 undef rfl (by kernel_rfl) (by kernel_rfl) (by kernel_rfl) (fun _ _ _ h => h) (by assumption) (Or.inr ⟨by rfl, rfl⟩) ?_
  try simp only [Act.put, List.setIfInBounds_toArray, List.set_cons_zero, List.set_cons_succ]
  refine Held.take 11 undef rfl (by kernel_rfl) (by kernel_rfl) (by kernel_rfl) (fun _ _ _ h => h) (by assumption) (Or.inr ⟨by rfl, rfl⟩) ?_
  try simp only [Act.put, List.setIfInBounds_toArray, List.set_cons_zero, List.set_cons_succ]
  refine Held.take 12 ?_ rfl (by kernel_rfl) (by kernel_rfl) (by kernel_rfl) (fun _ _ _ h => h) (by assumption) (Or.inl ⟨by rfl, ?_⟩) ?_
  rotate_left
  · intro x hSw; (try dsimp only at hSw); go_simp; (try with_reducible rfl)
  try simp only [Act.put, List.setIfInBounds_toArray, List.set_cons_zero, List.set_cons_succ]
  refine Held.take 13 ?_ rfl (by kernel_rfl) (by kernel_rfl) (by kernel_rfl) (fun _ _ _ h => h) (by assumption) (Or.inl ⟨by rfl, ?_⟩) ?_
  rotate_left
  · intro x hSw; (try dsimp only at hSw); go_simp; (try with_reducible rfl)
  try simp only [Act.put, List.setIfInBounds_toArray, List.set_cons_zero, List.set_cons_succ]
  refine Held.take 14 ?_ rfl (by kernel_rfl) (by kernel_rfl) (by kernel_rfl) (fun _ _ _ h => h) (by assumption) (Or.inl ⟨by rfl, ?_⟩) ?_
  rotate_left
  · intro x hSw; (try dsimp only at hSw); go_simp; (try with_reducible rfl)
  try simp only [Act.put, List.setIfInBounds_toArray, List.set_cons_zero, List.set_cons_succ]
  refine wpAnyH_ready (rs := [15]) (by kernel_rfl) (by simp) ?_
  refine AllReadyH.cons rfl (fun K hK => ?_) AllReadyH.nil
  go_simp
  go_wp2_with (go_at_call 14; refine (HVB.out _ HSD.out).mono ?_; rintro e w3 ⟨rfl, hb3⟩)
  have HS3 := Lib.hid (SK.out _ _ HSD.out hb3)
  refine hK.out _ _ (HSX.out _ HS3.out) (fun hHeld => ?_)
  clear hK K hb3
  skip
  refine Held.take 16 ?_ rfl (by kernel_rfl) (by kernel_rfl) (by kernel_rfl) (fun _ _ _ h => h) (by assumption) (Or.inl ⟨by rfl, ?_⟩) ?_
  rotate_left
  · intro x hSw; (try dsimp only at hSw); go_simp; (try with_reducible rfl)
  try simp only [Act.put, List.setIfInBounds_toArray, List.set_cons_zero, List.set_cons_succ]
  refine Held.take 17 ?_ rfl (by kernel_rfl) (by kernel_rfl) (by kernel_rfl) (fun _ _ _ h => h) (by assumption) (Or.inl ⟨by rfl, ?_⟩) ?_
  rotate_left
  · intro x hSw; (try dsimp only at hSw); go_simp; (try with_reducible rfl)
  try simp only [Act.put, List.setIfInBounds_toArray, List.set_cons_zero, List.set_cons_succ]
  refine Held.take 18 ?_ rfl (by kernel_rfl) (by kernel_rfl) (by kernel_rfl) (fun _ _ _ h => h) (by assumption) (Or.inl ⟨by rfl, ?_⟩) ?_
  rotate_left
  · intro x hSw; (try dsimp only at hSw); go_simp; (try with_reducible rfl)
  try simp only [Act.put, List.setIfInBounds_toArray, List.set_cons_zero, List.set_cons_succ]
  refine Held.take 19 ?_ rfl (by kernel_rfl) (by kernel_rfl) (by kernel_rfl) (fun _ _ _ h => h) (by assumption) (Or.inl ⟨by rfl, ?_⟩) ?_
  rotate_left
  · intro x hSw; (try dsimp only at hSw); go_simp; (try with_reducible rfl)
  try simp only [Act.put, List.setIfInBounds_toArray, List.set_cons_zero, List.set_cons_succ]
  refine Held.take 20 ?_ rfl (by kernel_rfl) (by kernel_rfl) (by kernel_rfl) (fun _ _ _ h => h) (by assumption) (Or.inl ⟨by rfl, ?_⟩) ?_
  rotate_left
  · intro x hSw; (try dsimp only at hSw); go_simp; (try with_reducible rfl)
  try simp only [Act.put, List.setIfInBounds_toArray, List.set_cons_zero, List.set_cons_succ]
  refine Held.take 21 ?_ rfl (by kernel_rfl) (by kernel_rfl) (by kernel_rfl) (fun _ _ _ h => h) (by assumption) (Or.inl ⟨by rfl, ?_⟩) ?_
  rotate_left
  · intro x hSw; (try dsimp only at hSw); go_simp; (try with_reducible rfl)
  try simp only [Act.put, List.setIfInBounds_toArray, List.set_cons_zero, List.set_cons_succ]
  refine Held.take 22 ?_ rfl (by kernel_rfl) (by kernel_rfl) (by kernel_rfl) (fun _ _ _ h => h) (by assumption) (Or.inl ⟨by rfl, ?_⟩) ?_
  rotate_left
  · intro x hSw; (try dsimp only at hSw); go_simp; (try with_reducible rfl)
  try simp only [Act.put, List.setIfInBounds_toArray, List.set_cons_zero, List.set_cons_succ]
  refine Held.take 23 ?_ rfl (by kernel_rfl) (by kernel_rfl) (by kernel_rfl) (fun _ _ _ h => h) (by assumption) (Or.inl ⟨by rfl, ?_⟩) ?_
  rotate_left
  · intro x hSw; (try dsimp only at hSw); go_simp; (try with_reducible rfl)
  try simp only [Act.put, List.setIfInBounds_toArray, List.set_cons_zero, List.set_cons_succ]
  refine Held.take 24 ?_ rfl (by kernel_rfl) (by kernel_rfl) (by kernel_rfl) (fun _ _ _ h => h) (by assumption) (Or.inl ⟨by rfl, ?_⟩) ?_
  rotate_left
  · intro x hSw; (try dsimp only at hSw); go_simp; (try with_reducible rfl)
  try simp only [Act.put, List.setIfInBounds_toArray, List.set_cons_zero, List.set_cons_succ]
  refine Held.take 25 ?_ rfl (by kernel_rfl) (by kernel_rfl) (by kernel_rfl) (fun _ _ _ h => h) (by assumption) (Or.inl ⟨by rfl, ?_⟩) ?_
  rotate_left
  · intro x hSw; (try dsimp only at hSw); go_simp; (try with_reducible rfl)
  try simp only [Act.put, List.setIfInBounds_toArray, List.set_cons_zero, List.set_cons_succ]
  refine Held.take 26 ?_ rfl (by kernel_rfl) (by kernel_rfl) (by kernel_rfl) (fun _ _ _ h => h) (by assumption) (Or.inl ⟨by rfl, ?_⟩) ?_
  rotate_left
  · intro x hSw; (try dsimp only at hSw); go_simp; (try with_reducible rfl)
  try simp only [Act.put, List.setIfInBounds_toArray, List.set_cons_zero, List.set_cons_succ]
  refine Held.take 27 ?_ rfl (by kernel_rfl) (by kernel_rfl) (by kernel_rfl) (fun _ _ _ h => h) (by assumption) (Or.inl ⟨by rfl, ?_⟩) ?_
  rotate_left
  · intro x hSw; (try dsimp only at hSw); go_simp; (try with_reducible rfl)
  try simp only [Act.put, List.setIfInBounds_toArray, List.set_cons_zero, List.set_cons_succ]
  refine Held.take 28 ?_ rfl (by kernel_rfl) (by kernel_rfl) (by kernel_rfl) (fun _ _ _ h => h) (by assumption) (Or.inl ⟨by rfl, ?_⟩) ?_
  rotate_left
  · intro x hSw; (try dsimp only at hSw); go_simp; (try with_reducible rfl)
  try simp only [Act.put, List.setIfInBounds_toArray, List.set_cons_zero, List.set_cons_succ]
  refine Held.take 29 ?_ rfl (by kernel_rfl) (by kernel_rfl) (by kernel_rfl) (fun _ _ _ h => h) (by assumption) (Or.inl ⟨by rfl, ?_⟩) ?_
  rotate_left
  · intro x hSw; (try dsimp only at hSw); go_simp; (try with_reducible rfl)
  try simp only [Act.put, List.setIfInBounds_toArray, List.set_cons_zero, List.set_cons_succ]
  refine Held.take 30 ?_ rfl (by kernel_rfl) (by kernel_rfl) (by kernel_rfl) (fun _ _ _ h => h) (by assumption) (Or.inl ⟨by rfl, ?_⟩) ?_
  rotate_left
  · intro x hSw; (try dsimp only at hSw); go_simp; (try with_reducible rfl)
  try simp only [Act.put, List.setIfInBounds_toArray, List.set_cons_zero, List.set_cons_succ]
  refine Held.take 31 ?_ rfl (by kernel_rfl) (by kernel_rfl) (by kernel_rfl) (fun _ _ _ h => h) (by assumption) (Or.inl ⟨by rfl, ?_⟩) ?_
  rotate_left
  · intro x hSw; (try dsimp only at hSw); go_simp; (try with_reducible rfl)
  try simp only [Act.put, List.setIfInBounds_toArray, List.set_cons_zero, List.set_cons_succ]
  refine wpAnyH_ready (rs := [32]) (by kernel_rfl) (by simp) ?_
  refine AllReadyH.cons rfl (fun K hK => ?_) AllReadyH.nil
  go_simp
  go_wp2_with (go_at_call 16; refine (HLF.out _ HS3.out).mono ?_; rintro e w4 ⟨v3, rfl, o3, hb4⟩)
  have HO3 := Lib.hid o3
  have HS4 := Lib.hid (SK.out _ _ HS3.out hb4)
  refine hK.out _ _ (HSX.out _ HS4.out) (fun hHeld => ?_)
  clear hK K hb4
  skip
  refine wpAnyH_ready (rs := [33]) (by kernel_rfl) (by simp) ?_
  refine AllReadyH.cons rfl (fun K hK => ?_) AllReadyH.nil
  go_simp
  go_wp2_with (go_at_call 15; refine (HSM.out v3 _ _ HS4.out (Flds.own_holds HO3.out)).mono ?_; rintro e w5 ⟨rfl, hb5⟩)
  have HS5 := Lib.hid (SK.out _ _ HS4.out hb5)
  refine hK.out _ _ (HSX.out _ HS5.out) (fun hHeld => ?_)
  clear hK K hb5
  skip
  generalize hsd : decide (l = sl) = sb at HE HSM
  cases sb with
  | false =>
    refine Held.take 34 ?_ rfl (by kernel_rfl) (by kernel_rfl) (by kernel_rfl) (fun _ _ _ h => h) (by assumption) (Or.inl ⟨by rfl, ?_⟩) ?_
    rotate_left
    · intro x hSw; (try dsimp only at hSw); go_simp; (try with_reducible rfl)
    try simp only [Act.put, List.setIfInBounds_toArray, List.set_cons_zero, List.set_cons_succ]
    refine Held.take 35 ?_ rfl (by kernel_rfl) (by kernel_rfl) (by kernel_rfl) (fun _ _ _ h => h) (by assumption) (Or.inl ⟨by rfl, ?_⟩) ?_
    rotate_left
    · intro x hSw; (try dsimp only at hSw); go_simp; (try with_reducible rfl)
    try simp only [Act.put, List.setIfInBounds_toArray, List.set_cons_zero, List.set_cons_succ]
    refine wpAnyH_done (by kernel_rfl) ?_ _
    have HF : Hid (z = false) := Lib.hid (by rw [HE.out]; simp [*])
    clear HE
    go_wp2
    go_ret
    exact ⟨ret_b HF.out.symm, HS5.out.2.out⟩
  | true =>
  refine Held.take 34 ?_ rfl (by kernel_rfl) (by kernel_rfl) (by kernel_rfl) (fun _ _ _ h => h) (by assumption) (Or.inl ⟨by rfl, ?_⟩) ?_
  rotate_left
  · intro x hSw; (try dsimp only at hSw); go_simp; (try with_reducible rfl)
  try simp only [Act.put, List.setIfInBounds_toArray, List.set_cons_zero, List.set_cons_succ]
  refine Held.take 35 ?_ rfl (by kernel_rfl) (by kernel_rfl) (by kernel_rfl) (fun _ _ _ h => h) (by assumption) (Or.inl ⟨by rfl, ?_⟩) ?_
  rotate_left
  · intro x hSw; (try dsimp only at hSw); go_simp; (try with_reducible rfl)
  try simp only [Act.put, List.setIfInBounds_toArray, List.set_cons_zero, List.set_cons_succ]
  refine wpAnyH_done (by kernel_rfl) ?_ _
  have x1 := HS5.out.1.1.cell 1 _ rfl
  go_wp2_with (fail)
  go_at_call 17
  refine (HA.out _ HS5.out).mono ?_
  rintro e w6 ⟨rfl, hb6⟩
  have HS6 := Lib.hid (SK.out _ _ HS5.out hb6)
  clear hb6 x1
  cases fb with
  | false =>
    have HF : Hid (z = false) := Lib.hid (by rw [HE.out]; simp [*])
    clear HE
    go_wp2
    go_ret
    exact ⟨ret_b HF.out.symm, HS6.out.2.out⟩
  | true =>
  have x5 := HS6.out.1.1.cell 5 _ rfl
  have x6 := HS6.out.1.1.cell 6 _ rfl
  go_wp2_with (fail)
  go_at_call 18
  refine (HP.out _ HS6.out).mono ?_
  rintro e w7 ⟨rfl, hb7⟩
  have HS7 := Lib.hid (SK.out _ _ HS6.out hb7)
  clear hb7 x5 x6
  cases ab with
  | false =>
    have HF : Hid (z = false) := Lib.hid (by rw [HE.out]; simp [*])
    clear HE
    go_wp2
    go_ret
    exact ⟨ret_b HF.out.symm, HS7.out.2.out⟩
  | true =>
  have y0 := HS7.out.1.2.cell 0 _ rfl
  have x0 := HS7.out.1.1.cell 0 _ rfl
  by_cases hk : (k.length : Int) ≤ 160
  case neg =>
    have hk' : ¬ k.length ≤ 160 := by omega
    have HF : Hid (z = false) := Lib.hid (by rw [HE.out]; simp [*])
    clear HE
    go_wp2
    go_ret
    exact ⟨ret_b HF.out.symm, HS7.out.2.out⟩
  have hk' : k.length ≤ 160 := by omega
  have x7 := HS7.out.1.1.cell 7 _ rfl
  have HN7 := Lib.hid (in_be i 0 2147483648)
  go_wp2_with (fail)
  go_at_call 20
  refine (HN7.out _).mono ?_
  rintro e w8 ⟨rfl, hb8⟩
  have HS8 := Lib.hid (SK.out _ _ HS7.out hb8)
  clear hb8 x7 x0 y0
  generalize hd7 : decide (0 ≤ i ∧ i ≤ 2147483648) = d7 at *
  cases d7 with
  | false =>
    have HF : Hid (z = false) := Lib.hid (by rw [HE.out]; simp [*])
    clear HE
    go_wp2
    go_ret
    exact ⟨ret_b HF.out.symm, HS8.out.2.out⟩
  | true =>
  have x8 := HS8.out.1.1.cell 8 _ rfl
  have HN8 := Lib.hid (in_be g 0 4102444799)
  go_wp2_with (fail)
  go_at_call 20
  refine (HN8.out _).mono ?_
  rintro e w9 ⟨rfl, hb9⟩
  have HS9 := Lib.hid (SK.out _ _ HS8.out hb9)
  clear hb9 x8
  generalize hd8 : decide (0 ≤ g ∧ g ≤ 4102444799) = d8 at *
  cases d8 with
  | false =>
    have HF : Hid (z = false) := Lib.hid (by rw [HE.out]; simp [*])
    clear HE
    go_wp2
    go_ret
    exact ⟨ret_b HF.out.symm, HS9.out.2.out⟩
  | true =>
  have x9 := HS9.out.1.1.cell 9 _ rfl
  have HN9 := Lib.hid (in_be q 0 1000000000000)
  go_wp2_with (fail)
  go_at_call 20
  refine (HN9.out _).mono ?_
  rintro e w10 ⟨rfl, hb10⟩
  have HS10 := Lib.hid (SK.out _ _ HS9.out hb10)
  clear hb10 x9
  have HF : Hid (z = decide (0 ≤ q ∧ q ≤ 1000000000000)) := Lib.hid (by rw [HE.out]; simp [*])
  clear HE
  go_wp2
  go_ret
  exact ⟨ret_b (by rw [HF.out]; first | rfl | simp), HS10.out.2.out⟩
end Go.Proofs.YtjjelbijbbnmcaaGreatDoor.Ent
