/-
  CONTRACTS AND PLAIN FACTS, several texts in one; each says in its own words what it proves.
-/
import Derived.Test.YtjjelbijbbnmcaaGreatDoorPartAI
import Derived.Test.YtjjelbijbbnmcaaGreatDoorPartAJ
import Derived.Test.YtjjelbijbbnmcaaGreatDoorPartAK

/-
  CONTRACT of the model's IsEntry, for any other code, and for all; nothing that was there before is changed.
-/
namespace Go.Proofs.YtjjelbijbbnmcaaGreatDoor.Ent
open Go Go.RowKit
set_option linter.unusedVariables false
set_option maxRecDepth 1000000

set_option maxHeartbeats 2000000 in
theorem spec_entx (k : List UInt8) (s : Value) (ls : List Flds.Fld) (c : Int) (u : Value) (l : List Flds.Fld) (b : List UInt8) (p : Value) (ps : List Pcs.T) (n i g q : Int) (B : Nat) (w : World) (hs : Flds.Holds w B s ls) (hu : Flds.Holds w B u l) (hp : Pcs.Holds w B p ps) (hB : B ≤ w.heap.size) (hls : Flds.total ls ≤ 1048576) (hl : Flds.total l ≤ 1048576) (hbl : b.length ≤ 1048576) (hps : Pcs.total ps ≤ 1048576) (hkl : k.length ≤ 1048576) (hc : ¬ (c = 200 ∨ c = 404 ∨ c = 410)) :
    Calls Tryz.prog 5 #[.agg #[.string ⟨k.toArray⟩, s, .int .i64 c, u, .string ⟨b.toArray⟩, p, .int .i64 n, .int .i64 i, .int .i64 g, .int .i64 q]] w (BoolEnd (entOk k ls c l b ps n i g q) w) := by
  have hll : l.length ≤ 1048576 := by unfold Flds.total at hl; omega
  obtain ⟨a, cap, rfl, _⟩ := Flds.shape_any hu
  have hgl := Flds.got_len Age.dateN l
  have hb0 : Below w.heap.size w ((w.alloc (.cells #[.string ⟨k.toArray⟩, s, .int .i64 c, (.slice a l.length cap), .string ⟨b.toArray⟩, p, .int .i64 n, .int .i64 i, .int .i64 g, .int .i64 q] 35)).alloc (.cells #[.int .i64 c, (.slice a l.length cap), .string ⟨b.toArray⟩] 32)) := (((Below.refl _ _).alloc (Nat.le_refl _) _).alloc (by simp) _)
  have hbx := (Kept.Box.new (w := w) (T := 35) (a := #[.string ⟨k.toArray⟩, s, .int .i64 c, (.slice a l.length cap), .string ⟨b.toArray⟩, p, .int .i64 n, .int .i64 i, .int .i64 g, .int .i64 q])).alloc (.cells #[.int .i64 c, (.slice a l.length cap), .string ⟨b.toArray⟩] 32)
  have hby := Kept.Box.new (w := (w.alloc (.cells #[.string ⟨k.toArray⟩, s, .int .i64 c, (.slice a l.length cap), .string ⟨b.toArray⟩, p, .int .i64 n, .int .i64 i, .int .i64 g, .int .i64 q] 35))) (T := 32) (a := #[.int .i64 c, (.slice a l.length cap), .string ⟨b.toArray⟩])
  rw [show (w.alloc (.cells #[.string ⟨k.toArray⟩, s, .int .i64 c, (.slice a l.length cap), .string ⟨b.toArray⟩, p, .int .i64 n, .int .i64 i, .int .i64 g, .int .i64 q] 35)).heap.size = w.heap.size + 1 by simp] at hby
  have HS0 : Hid (EntU w [.string ⟨k.toArray⟩, s, .int .i64 c, (.slice a l.length cap), .string ⟨b.toArray⟩, p, .int .i64 n, .int .i64 i, .int .i64 g, .int .i64 q] [.int .i64 c, (.slice a l.length cap), .string ⟨b.toArray⟩] ((w.alloc (.cells #[.string ⟨k.toArray⟩, s, .int .i64 c, (.slice a l.length cap), .string ⟨b.toArray⟩, p, .int .i64 n, .int .i64 i, .int .i64 g, .int .i64 q] 35)).alloc (.cells #[.int .i64 c, (.slice a l.length cap), .string ⟨b.toArray⟩] 32))) := Lib.hid ⟨⟨hbx, hby⟩, Lib.hid hb0⟩
  have SK : Hid (∀ w0 w1 : World, EntU w [.string ⟨k.toArray⟩, s, .int .i64 c, (.slice a l.length cap), .string ⟨b.toArray⟩, p, .int .i64 n, .int .i64 i, .int .i64 g, .int .i64 q] [.int .i64 c, (.slice a l.length cap), .string ⟨b.toArray⟩] w0 → Below w0.heap.size w0 w1 → EntU w [.string ⟨k.toArray⟩, s, .int .i64 c, (.slice a l.length cap), .string ⟨b.toArray⟩, p, .int .i64 n, .int .i64 i, .int .i64 g, .int .i64 q] [.int .i64 c, (.slice a l.length cap), .string ⟨b.toArray⟩] w1) := Lib.hid (fun _ _ h hb => entu_call h hb)
  have HG : Hid (∀ x, EntU w [.string ⟨k.toArray⟩, s, .int .i64 c, (.slice a l.length cap), .string ⟨b.toArray⟩, p, .int .i64 n, .int .i64 i, .int .i64 g, .int .i64 q] [.int .i64 c, (.slice a l.length cap), .string ⟨b.toArray⟩] x → Calls Tryz.prog 13 #[(.slice a l.length cap), .string ⟨Age.dateN.toArray⟩] x (Flds.GotEnd (Flds.got Age.dateN l) x)) := Lib.hid (fun x hx => Flds.spec_lget (.slice a l.length cap) B l Age.dateN x (Flds.holds_below hu (hx.2.out.mono hB)) (by omega))
  have HPD : Hid (∀ x, EntU w [.string ⟨k.toArray⟩, s, .int .i64 c, (.slice a l.length cap), .string ⟨b.toArray⟩, p, .int .i64 n, .int .i64 i, .int .i64 g, .int .i64 q] [.int .i64 c, (.slice a l.length cap), .string ⟨b.toArray⟩] x → Calls Tryz.prog 12 #[.string ⟨(Flds.got Age.dateN l).toArray⟩] x (Dt.PdEnd (Dt.pdate (Flds.got Age.dateN l)) x)) := Lib.hid (fun x _ => Dt.spec_pdate (Flds.got Age.dateN l) x (by omega))
  have HE : Hid (entOk k ls c l b ps n i g q = (headOk c l b && (Flds.fldsOk ls && (decide (k.length ≤ 160) && (Pcs.arep ps n && ((decide (c = 200) || Pcs.whole ps n) && (decide (0 ≤ i ∧ i ≤ 2147483648) && (decide (0 ≤ g ∧ g ≤ 4102444799) && decide (0 ≤ q ∧ q ≤ 1000000000000))))))))) := Lib.hid rfl
  have hh : headOk c l b = false := by unfold headOk; rw [decide_eq_false (show ¬ c = 200 by omega), decide_eq_false (show ¬ c = 404 by omega), decide_eq_false (show ¬ c = 410 by omega)]; rfl
  rw [hh, Bool.false_and] at HE
  have p1 : (c == 200) = false := by simp; omega
  have p2 : (c == 404) = false := by simp; omega
  have p3 : (c == 410) = false := by simp; omega
  have q1 : (c != 200) = true := by simp; omega
  have q2 : (c != 404) = true := by simp; omega
  have q3 : (c != 410) = true := by simp; omega
  clear hh hc
  unfold Flds.GotEnd at HG
  unfold Dt.PdEnd at HPD
  unfold BoolEnd
  generalize entOk k ls c l b ps n i g q = z at HE ⊢
  generalize Dt.pdate (Flds.got Age.dateN l) = dd at HPD
  obtain ⟨dt, dk⟩ := dd
  simp only at HPD
  have hkz : (⟨k.toArray⟩ : ByteArray).size = k.length := by simp [ByteArray.size]
  unfold Age.dateN at HG
  clear hbx hby hb0 hs hu hp hls hl hbl hps
  go_enter Tryz.func5, Tryz.ntmps5
  go_wp2_with (fail)
  go_at_call 13
  refine (HG.out _ HS0.out).mono ?_
  rintro e w1 ⟨rfl, hb1⟩
  have HS1 := Lib.hid (SK.out _ _ HS0.out hb1)
  clear hb1
  go_wp2_with (fail)
  go_at_call 12
  refine (HPD.out _ HS1.out).mono ?_
  rintro e w2 ⟨rfl, hb2⟩
  have HS2 := Lib.hid (SK.out _ _ HS1.out hb2)
  clear hb2
  have HSD : Hid ((EntU w [.string ⟨k.toArray⟩, s, .int .i64 c, (.slice a l.length cap), .string ⟨b.toArray⟩, p, .int .i64 n, .int .i64 i, .int .i64 g, .int .i64 q] [.int .i64 c, (.slice a l.length cap), .string ⟨b.toArray⟩]) w2.drew) := Lib.hid ⟨⟨HS2.out.1.1.below (Rec.below_drew (Below.refl _ _)), HS2.out.1.2.below (Rec.below_drew (Below.refl _ _))⟩, Lib.hid (Rec.below_drew HS2.out.2.out)⟩
  go_wp2
  refine wp_region_held_drew (S := (fun x => x.cell? ⟨w.heap.size + 1, 0, none⟩ = some (.int .i64 c) ∧ x.cell? ⟨w.heap.size + 1, 1, none⟩ = some (.slice a l.length cap))) (by kernel_rfl) ⟨HSD.out.1.2.cell 0 _ rfl, HSD.out.1.2.cell 1 _ rfl⟩ (fun hHeld => ?_)
  refine Held.take 0 ?_ rfl (by kernel_rfl) (by kernel_rfl) (by kernel_rfl) (fun _ _ _ h => h) (by assumption) (Or.inl ⟨by rfl, ?_⟩) ?_
  rotate_left
  · intro x hSw; (try dsimp only at hSw); go_simp; (try with_reducible rfl)
  try simp only [Act.put, List.setIfInBounds_toArray, List.set_cons_zero, List.set_cons_succ]
  refine Held.take 1 ?_ rfl (by kernel_rfl) (by kernel_rfl) (by kernel_rfl) (fun _ _ _ h => h) (by assumption) (Or.inl ⟨by rfl, ?_⟩) ?_
  rotate_left
  · intro x hSw; (try dsimp only at hSw); go_simp; (try with_reducible rfl)
  try simp only [Act.put, List.setIfInBounds_toArray, List.set_cons_zero, List.set_cons_succ]
  refine Held.take 2 (.bool true) rfl (by kernel_rfl) (by kernel_rfl) (by kernel_rfl) (fun _ _ _ h => h) (by assumption) (Or.inl ⟨by rfl, fun x hSw => by dsimp only at hSw; go_simp⟩) ?_
  try simp only [Act.put, List.setIfInBounds_toArray, List.set_cons_zero, List.set_cons_succ]
  refine Held.take 3 ?_ rfl (by kernel_rfl) (by kernel_rfl) (by kernel_rfl) (fun _ _ _ h => h) (by assumption) (Or.inl ⟨by rfl, ?_⟩) ?_
  rotate_left
  · intro x hSw; (try dsimp only at hSw); go_simp; (try with_reducible rfl)
  try simp only [Act.put, List.setIfInBounds_toArray, List.set_cons_zero, List.set_cons_succ]
  refine Held.take 4 ?_ rfl (by kernel_rfl) (by kernel_rfl) (by kernel_rfl) (fun _ _ _ h => h) (by assumption) (Or.inl ⟨by rfl, ?_⟩) ?_
  rotate_left
  · intro x hSw; (try dsimp only at hSw); go_simp; (try with_reducible rfl)
  try simp only [Act.put, List.setIfInBounds_toArray, List.set_cons_zero, List.set_cons_succ]
  refine Held.take 5 ?_ rfl (by kernel_rfl) (by kernel_rfl) (by kernel_rfl) (fun _ _ _ h => h) (by assumption) (Or.inl ⟨by rfl, ?_⟩) ?_
  rotate_left
  · intro x hSw; (try dsimp only at hSw); go_simp; (try with_reducible rfl)
  try simp only [Act.put, List.setIfInBounds_toArray, List.set_cons_zero, List.set_cons_succ]
  refine Held.take 6 (.bool true) rfl (by kernel_rfl) (by kernel_rfl) (by kernel_rfl) (fun _ _ _ h => h) (by assumption) (Or.inl ⟨by rfl, fun x hSw => by dsimp only at hSw; go_simp⟩) ?_
  try simp only [Act.put, List.setIfInBounds_toArray, List.set_cons_zero, List.set_cons_succ]
  refine Held.take 7 ?_ rfl (by kernel_rfl) (by kernel_rfl) (by kernel_rfl) (fun _ _ _ h => h) (by assumption) (Or.inl ⟨by rfl, ?_⟩) ?_
  rotate_left
  · intro x hSw; (try dsimp only at hSw); go_simp; (try with_reducible rfl)
  try simp only [Act.put, List.setIfInBounds_toArray, List.set_cons_zero, List.set_cons_succ]
  refine Held.take 8 ?_ rfl (by kernel_rfl) (by kernel_rfl) (by kernel_rfl) (fun _ _ _ h => h) (by assumption) (Or.inl ⟨by rfl, ?_⟩) ?_
  rotate_left
  · intro x hSw; (try dsimp only at hSw); go_simp; (try with_reducible rfl)
  try simp only [Act.put, List.setIfInBounds_toArray, List.set_cons_zero, List.set_cons_succ]
  refine Held.take 9 ?_ rfl (by kernel_rfl) (by kernel_rfl) (by kernel_rfl) (fun _ _ _ h => h) (by assumption) (Or.inl ⟨by rfl, ?_⟩) ?_
  rotate_left
  · intro x hSw; (try dsimp only at hSw); go_simp; (try with_reducible rfl)
  try simp only [Act.put, List.setIfInBounds_toArray, List.set_cons_zero, List.set_cons_succ]
  refine Held.take 10 ?_ rfl (by kernel_rfl) (by kernel_rfl) (by kernel_rfl) (fun _ _ _ h => h) (by assumption) (Or.inl ⟨by rfl, ?_⟩) ?_
  rotate_left
  · intro x hSw; (try dsimp only at hSw); go_simp; (try with_reducible rfl)
  try simp only [Act.put, List.setIfInBounds_toArray, List.set_cons_zero, List.set_cons_succ]
  refine Held.take 11 (.bool true) rfl (by kernel_rfl) (by kernel_rfl) (by kernel_rfl) (fun _ _ _ h => h) (by assumption) (Or.inl ⟨by rfl, fun x hSw => by dsimp only at hSw; go_simp⟩) ?_
  try simp only [Act.put, List.setIfInBounds_toArray, List.set_cons_zero, List.set_cons_succ]
  refine Held.take 12 ?_ rfl (by kernel_rfl) (by kernel_rfl) (by kernel_rfl) (fun _ _ _ h => h) (by assumption) (Or.inl ⟨by rfl, ?_⟩) ?_
  rotate_left
  · intro x hSw; (try dsimp only at hSw); go_simp; (try with_reducible rfl)
  try simp only [Act.put, List.setIfInBounds_toArray, List.set_cons_zero, List.set_cons_succ]
  refine Held.take 13 ?_ rfl (by kernel_rfl) (by kernel_rfl) (by kernel_rfl) (fun _ _ _ h => h) (by assumption) (Or.inl ⟨by rfl, ?_⟩) ?_
  rotate_left
  · intro x hSw; (try dsimp only at hSw); go_simp; (try with_reducible rfl)
  try simp only [Act.put, List.setIfInBounds_toArray, List.set_cons_zero, List.set_cons_succ]
  refine Held.take 14 undef rfl (by kernel_rfl) (by kernel_rfl) (by kernel_rfl) (fun _ _ _ h => h) (by assumption) (Or.inr ⟨by rfl, rfl⟩) ?_
  try simp only [Act.put, List.setIfInBounds_toArray, List.set_cons_zero, List.set_cons_succ]
  refine Held.take 15 undef rfl (by kernel_rfl) (by kernel_rfl) (by kernel_rfl) (fun _ _ _ h => h) (by assumption) (Or.inr ⟨by rfl, rfl⟩) ?_
  try simp only [Act.put, List.setIfInBounds_toArray, List.set_cons_zero, List.set_cons_succ]
  refine Held.take 16 undef rfl (by kernel_rfl) (by kernel_rfl) (by kernel_rfl) (fun _ _ _ h => h) (by assumption) (Or.inr ⟨by rfl, rfl⟩) ?_
  try simp only [Act.put, List.setIfInBounds_toArray, List.set_cons_zero, List.set_cons_succ]
  refine Held.take 17 ?_ rfl (by kernel_rfl) (by kernel_rfl) (by kernel_rfl) (fun _ _ _ h => h) (by assumption) (Or.inl ⟨by rfl, ?_⟩) ?_
  rotate_left
  · intro x hSw; (try dsimp only at hSw); go_simp; (try with_reducible rfl)
  try simp only [Act.put, List.setIfInBounds_toArray, List.set_cons_zero, List.set_cons_succ]
  refine Held.take 18 ?_ rfl (by kernel_rfl) (by kernel_rfl) (by kernel_rfl) (fun _ _ _ h => h) (by assumption) (Or.inl ⟨by rfl, ?_⟩) ?_
  rotate_left
  · intro x hSw; (try dsimp only at hSw); go_simp; (try with_reducible rfl)
  try simp only [Act.put, List.setIfInBounds_toArray, List.set_cons_zero, List.set_cons_succ]
  refine Held.take 19 undef rfl (by kernel_rfl) (by kernel_rfl) (by kernel_rfl) (fun _ _ _ h => h) (by assumption) (Or.inr ⟨by rfl, rfl⟩) ?_
  try simp only [Act.put, List.setIfInBounds_toArray, List.set_cons_zero, List.set_cons_succ]
  refine Held.take 20 undef rfl (by kernel_rfl) (by kernel_rfl) (by kernel_rfl) (fun _ _ _ h => h) (by assumption) (Or.inr ⟨by rfl, rfl⟩) ?_
  try simp only [Act.put, List.setIfInBounds_toArray, List.set_cons_zero, List.set_cons_succ]
  refine Held.take 21 undef rfl (by kernel_rfl) (by kernel_rfl) (by kernel_rfl) (fun _ _ _ h => h) (by assumption) (Or.inr ⟨by rfl, rfl⟩) ?_
  try simp only [Act.put, List.setIfInBounds_toArray, List.set_cons_zero, List.set_cons_succ]
  refine Held.take 22 ?_ rfl (by kernel_rfl) (by kernel_rfl) (by kernel_rfl) (fun _ _ _ h => h) (by assumption) (Or.inl ⟨by rfl, ?_⟩) ?_
  rotate_left
  · intro x hSw; (try dsimp only at hSw); go_simp; (try with_reducible rfl)
  try simp only [Act.put, List.setIfInBounds_toArray, List.set_cons_zero, List.set_cons_succ]
  refine Held.take 23 ?_ rfl (by kernel_rfl) (by kernel_rfl) (by kernel_rfl) (fun _ _ _ h => h) (by assumption) (Or.inl ⟨by rfl, ?_⟩) ?_
  rotate_left
  · intro x hSw; (try dsimp only at hSw); go_simp; (try with_reducible rfl)
  try simp only [Act.put, List.setIfInBounds_toArray, List.set_cons_zero, List.set_cons_succ]
  refine Held.take 24 undef rfl (by kernel_rfl) (by kernel_rfl) (by kernel_rfl) (fun _ _ _ h => h) (by assumption) (Or.inr ⟨by rfl, rfl⟩) ?_
  try simp only [Act.put, List.setIfInBounds_toArray, List.set_cons_zero, List.set_cons_succ]
  refine Held.take 25 undef rfl (by kernel_rfl) (by kernel_rfl) (by kernel_rfl) (fun _ _ _ h => h) (by assumption) (Or.inr ⟨by rfl, rfl⟩) ?_
  try simp only [Act.put, List.setIfInBounds_toArray, List.set_cons_zero, List.set_cons_succ]
  refine Held.take 26 ?_ rfl (by kernel_rfl) (by kernel_rfl) (by kernel_rfl) (fun _ _ _ h => h) (by assumption) (Or.inl ⟨by rfl, ?_⟩) ?_
  rotate_left
  · intro x hSw; (try dsimp only at hSw); go_simp; (try with_reducible rfl)
  try simp only [Act.put, List.setIfInBounds_toArray, List.set_cons_zero, List.set_cons_succ]
  refine Held.take 27 ?_ rfl (by kernel_rfl) (by kernel_rfl) (by kernel_rfl) (fun _ _ _ h => h) (by assumption) (Or.inl ⟨by rfl, ?_⟩) ?_
  rotate_left
  · intro x hSw; (try dsimp only at hSw); go_simp; (try with_reducible rfl)
  try simp only [Act.put, List.setIfInBounds_toArray, List.set_cons_zero, List.set_cons_succ]
  refine Held.take 28 undef rfl (by kernel_rfl) (by kernel_rfl) (by kernel_rfl) (fun _ _ _ h => h) (by assumption) (Or.inr ⟨by rfl, rfl⟩) ?_
  try simp only [Act.put, List.setIfInBounds_toArray, List.set_cons_zero, List.set_cons_succ]
  refine Held.take 29 undef rfl (by kernel_rfl) (by kernel_rfl) (by kernel_rfl) (fun _ _ _ h => h) (by assumption) (Or.inr ⟨by rfl, rfl⟩) ?_
  try simp only [Act.put, List.setIfInBounds_toArray, List.set_cons_zero, List.set_cons_succ]
  refine Held.take 30 undef rfl (by kernel_rfl) (by kernel_rfl) (by kernel_rfl) (fun _ _ _ h => h) (by assumption) (Or.inr ⟨by rfl, rfl⟩) ?_
  try simp only [Act.put, List.setIfInBounds_toArray, List.set_cons_zero, List.set_cons_succ]
  refine Held.take 31 undef rfl (by kernel_rfl) (by kernel_rfl) (by kernel_rfl) (fun _ _ _ h => h) (by assumption) (Or.inr ⟨by rfl, rfl⟩) ?_
  try simp only [Act.put, List.setIfInBounds_toArray, List.set_cons_zero, List.set_cons_succ]
  refine Held.take 32 undef rfl (by kernel_rfl) (by kernel_rfl) (by kernel_rfl) (fun _ _ _ h => h) (by assumption) (Or.inr ⟨by rfl, rfl⟩) ?_
  try simp only [Act.put, List.setIfInBounds_toArray, List.set_cons_zero, List.set_cons_succ]
  refine Held.take 33 undef rfl (by kernel_rfl) (by kernel_rfl) (by kernel_rfl) (fun _ _ _ h => h) (by assumption) (Or.inr ⟨by rfl, rfl⟩) ?_
  try simp only [Act.put, List.setIfInBounds_toArray, List.set_cons_zero, List.set_cons_succ]
  refine Held.take 34 undef rfl (by kernel_rfl) (by kernel_rfl) (by kernel_rfl) (fun _ _ _ h => h) (by assumption) (Or.inr ⟨by rfl, rfl⟩) ?_
  try simp only [Act.put, List.setIfInBounds_toArray, List.set_cons_zero, List.set_cons_succ]
  refine Held.take 35 ?_ rfl (by kernel_rfl) (by kernel_rfl) (by kernel_rfl) (fun _ _ _ h => h) (by assumption) (Or.inl ⟨by rfl, ?_⟩) ?_
  rotate_left
  · intro x hSw; (try dsimp only at hSw); go_simp; (try with_reducible rfl)
  try simp only [Act.put, List.setIfInBounds_toArray, List.set_cons_zero, List.set_cons_succ]
  refine wpAnyH_done (by kernel_rfl) ?_ _
  have HF : Hid (z = false) := Lib.hid (HE.out)
  clear HE
  go_wp2
  go_ret
  exact ⟨ret_b HF.out.symm, HSD.out.2.out⟩

theorem spec_ent (k : List UInt8) (s : Value) (ls : List Flds.Fld) (c : Int) (u : Value) (l : List Flds.Fld) (b : List UInt8) (p : Value) (ps : List Pcs.T) (n i g q : Int) (B : Nat) (w : World) (hs : Flds.Holds w B s ls) (hu : Flds.Holds w B u l) (hp : Pcs.Holds w B p ps) (hB : B ≤ w.heap.size) (hls : Flds.total ls ≤ 1048576) (hl : Flds.total l ≤ 1048576) (hbl : b.length ≤ 1048576) (hps : Pcs.total ps ≤ 1048576) (hkl : k.length ≤ 1048576) :
    Calls Tryz.prog 5 #[.agg #[.string ⟨k.toArray⟩, s, .int .i64 c, u, .string ⟨b.toArray⟩, p, .int .i64 n, .int .i64 i, .int .i64 g, .int .i64 q]] w (BoolEnd (entOk k ls c l b ps n i g q) w) := by
  by_cases hc : c = 200 ∨ c = 404 ∨ c = 410
  · rcases hc with rfl | rfl | rfl
    · exact spec_ent200 k s ls u l b p ps n i g q B w hs hu hp hB hls hl hbl hps hkl
    · exact spec_ent404 k s ls u l b p ps n i g q B w hs hu hp hB hls hl hbl hps hkl
    · exact spec_ent410 k s ls u l b p ps n i g q B w hs hu hp hB hls hl hbl hps hkl
  · exact spec_entx k s ls c u l b p ps n i g q B w hs hu hp hB hls hl hbl hps hkl hc
end Go.Proofs.YtjjelbijbbnmcaaGreatDoor.Ent
