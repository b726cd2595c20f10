/-
  CONTRACTS AND PLAIN FACTS, several texts in one; each says in its own words what it proves.
-/
import Derived.Test.YtilephkbcikfbaaDoorPartL
import Derived.Test.YtilephkbcikfbaaDoorPartG
import Derived.Test.YtilephkbcikfbaaDoorPartF
import Derived.Lib.LaidTab
set_option linter.unusedSimpArgs false
set_option linter.unusedVariables false

/-
  PLAIN FACTS on dates that are read from their places: a text that is written in one of the three forms has the parts of its time at the places of that form.
-/
namespace Go.Proofs.YtilephkbcikfbaaDoor.Dt
open Go Go.RowKit
set_option linter.unusedVariables false
set_option maxRecDepth 1000000

def lz (c : UInt8) : Int := if 48 ≤ c.toNat ∧ c.toNat ≤ 57 then c.toNat - 48 else 0
def loose (l : List UInt8) : Int := l.foldl (fun n c => n * 10 + lz c) 0
def dig (c : UInt8) : Bool := decide (48 ≤ c.toNat ∧ c.toNat ≤ 57)
theorem lz_bd (c : UInt8) : 0 ≤ lz c ∧ lz c ≤ 9 := by unfold lz; split <;> omega
theorem digs2 {n : Int} (h0 : 0 ≤ n) (h1 : n ≤ 99) : ∃ a b, Dig.digs n 2 = [a, b] ∧ dig a = true ∧ dig b = true ∧ 10 * lz a + lz b = n := by
  have : ∀ k : Fin 100, (Dig.digs (k.1 : Int) 2).length = 2 ∧ dig ((Dig.digs (k.1 : Int) 2).getD 0 0) = true ∧ dig ((Dig.digs (k.1 : Int) 2).getD 1 0) = true ∧ 10 * lz ((Dig.digs (k.1 : Int) 2).getD 0 0) + lz ((Dig.digs (k.1 : Int) 2).getD 1 0) = (k.1 : Int) := by decide +kernel
  have h := this ⟨n.toNat, by omega⟩
  rw [show ((n.toNat : Nat) : Int) = n by omega] at h
  generalize Dig.digs n 2 = l at h ⊢
  match l, h with
  | [a, b], h => exact ⟨a, b, rfl, h.2.1, h.2.2.1, h.2.2.2⟩
theorem digs4 {n : Int} (h0 : 1970 ≤ n) (h1 : n ≤ 2099) : ∃ a b c d, Dig.digs n 4 = [a, b, c, d] ∧ dig a = true ∧ dig b = true ∧ dig c = true ∧ dig d = true ∧ 1000 * lz a + 100 * lz b + 10 * lz c + lz d = n := by
  have : ∀ k : Fin 130, (Dig.digs (1970 + (k.1 : Int)) 4).length = 4 ∧ dig ((Dig.digs (1970 + (k.1 : Int)) 4).getD 0 0) = true ∧ dig ((Dig.digs (1970 + (k.1 : Int)) 4).getD 1 0) = true ∧ dig ((Dig.digs (1970 + (k.1 : Int)) 4).getD 2 0) = true ∧ dig ((Dig.digs (1970 + (k.1 : Int)) 4).getD 3 0) = true ∧ 1000 * lz ((Dig.digs (1970 + (k.1 : Int)) 4).getD 0 0) + 100 * lz ((Dig.digs (1970 + (k.1 : Int)) 4).getD 1 0) + 10 * lz ((Dig.digs (1970 + (k.1 : Int)) 4).getD 2 0) + lz ((Dig.digs (1970 + (k.1 : Int)) 4).getD 3 0) = 1970 + (k.1 : Int) := by decide +kernel
  have h := this ⟨(n - 1970).toNat, by omega⟩
  rw [show 1970 + (((n - 1970).toNat : Nat) : Int) = n by omega] at h
  generalize Dig.digs n 4 = l at h ⊢
  match l, h with
  | [a, b, c, d], h => exact ⟨a, b, c, d, rfl, h.2.1, h.2.2.1, h.2.2.2.1, h.2.2.2.2.1, h.2.2.2.2.2⟩
theorem dtx2 {n : Int} (h0 : 1 ≤ n) (h1 : n ≤ 31) : ∃ a b, dtx n = [a, b] ∧ (a = 32 ∨ dig a = true) ∧ dig b = true ∧ 10 * lz a + lz b = n := by
  have : ∀ k : Fin 31, (dtx (1 + (k.1 : Int))).length = 2 ∧ ((dtx (1 + (k.1 : Int))).getD 0 0 = 32 ∨ dig ((dtx (1 + (k.1 : Int))).getD 0 0) = true) ∧ dig ((dtx (1 + (k.1 : Int))).getD 1 0) = true ∧ 10 * lz ((dtx (1 + (k.1 : Int))).getD 0 0) + lz ((dtx (1 + (k.1 : Int))).getD 1 0) = 1 + (k.1 : Int) := by decide +kernel
  have h := this ⟨(n - 1).toNat, by omega⟩
  rw [show 1 + (((n - 1).toNat : Nat) : Int) = n by omega] at h
  generalize dtx n = l at h ⊢
  match l, h with
  | [a, b], h => exact ⟨a, b, rfl, h.2.1, h.2.2.1, h.2.2.2⟩
/-- The month with this name; 0 where there is none. -/
def monOf (l : List UInt8) : Int := if mons12.idxOf l < 12 then (mons12.idxOf l : Int) + 1 else 0
theorem monOf_mnm {k : Nat} (h : k < 12) : ∃ a b c, mnm k = [a, b, c] ∧ monOf [a, b, c] = (k : Int) + 1 := by
  have : ∀ k : Fin 12, (mnm k.1).length = 3 ∧ monOf (mnm k.1) = (k.1 : Int) + 1 := by decide +kernel
  have h := this ⟨k, h⟩
  simp only at h
  generalize mnm k = l at h ⊢
  match l, h with
  | [a, b, c], h => exact ⟨a, b, c, rfl, h.2⟩
theorem clk8 {s : Int} (h0 : 0 ≤ s) (h1 : s ≤ 86399) : ∃ a b c d e f, clk s = [a, b, 58, c, d, 58, e, f] ∧ (dig a = true ∧ dig b = true ∧ dig c = true ∧ dig d = true ∧ dig e = true ∧ dig f = true) ∧ 3600 * (10 * lz a + lz b) + 60 * (10 * lz c + lz d) + (10 * lz e + lz f) = s := by
  obtain ⟨a, b, h, q1, q2, q⟩ := digs2 (n := s / 3600) (by omega) (by omega)
  obtain ⟨c, d, i, r1, r2, r⟩ := digs2 (n := s % 3600 / 60) (by omega) (by omega)
  obtain ⟨e, f, j, s1, s2, t⟩ := digs2 (n := s % 60) (by omega) (by omega)
  refine ⟨a, b, c, d, e, f, by unfold clk; rw [h, i, j]; rfl, ⟨q1, q2, r1, r2, s1, s2⟩, by omega⟩
theorem dnm3 {k : Nat} (h : k < 7) : ∃ a b c r, dnm k = a :: b :: c :: r ∧ 3 ≤ r.length ∧ r.length ≤ 6 := by
  have : ∀ k : Fin 7, 6 ≤ (dnm k.1).length ∧ (dnm k.1).length ≤ 9 := by decide
  have h := this ⟨k, h⟩
  simp only at h
  generalize dnm k = l at h ⊢
  match l, h with
  | a :: b :: c :: r, h => exact ⟨a, b, c, r, rfl, by simp at h; omega, by simp at h; omega⟩
def InT (t : Int) : Prop := 0 ≤ t ∧ t ≤ 4102444799
theorem loose2 (a b : UInt8) : loose [a, b] = 10 * lz a + lz b := by simp [loose]; omega
theorem loose4 (a b c d : UInt8) : loose [a, b, c, d] = 1000 * lz a + 100 * lz b + 10 * lz c + lz d := by simp [loose]; omega
theorem loose_snoc (l : List UInt8) (c : UInt8) : loose (l ++ [c]) = loose l * 10 + lz c := by unfold loose; rw [List.foldl_append]; rfl
theorem loose_bd : ∀ (l : List UInt8), 0 ≤ loose l ∧ loose l + 1 ≤ 10 ^ l.length := by
  intro l
  suffices h : ∀ n : Nat, ∀ l : List UInt8, l.length = n → 0 ≤ loose l ∧ loose l + 1 ≤ 10 ^ n by exact h _ l rfl
  intro n
  induction n with
  | zero => intro l h; obtain rfl := List.length_eq_zero_iff.1 h; simp [loose]
  | succ n ih =>
    intro l h
    obtain ⟨t, c, rfl⟩ : ∃ t c, l = t ++ [c] := by
      rcases List.eq_nil_or_concat l with h0 | ⟨t, c, h0⟩
      · subst h0; simp at h
      · exact ⟨t, c, by simpa using h0⟩
    have := ih t (by simp at h; omega)
    have hz := lz_bd c
    rw [loose_snoc]
    have e : (10 : Int) ^ (n + 1) = 10 ^ n * 10 := by rw [Int.pow_succ]
    omega
/-- The number of two digits at an index; -1 if there are none. -/
def tw (l : List UInt8) (k : Nat) : Int := if dig (l.getD k 0) = true ∧ dig (l.getD (k + 1) 0) = true then 10 * lz (l.getD k 0) + lz (l.getD (k + 1) 0) else -1
theorem tw_bd (l : List UInt8) (k : Nat) : -1 ≤ tw l k ∧ tw l k ≤ 99 := by
  unfold tw; have a := lz_bd (l.getD k 0); have b := lz_bd (l.getD (k + 1) 0); split <;> omega
theorem tw_yes {l : List UInt8} {k : Nat} {a b : UInt8} (h1 : l.getD k 0 = a) (h2 : l.getD (k + 1) 0 = b) (ha : dig a = true) (hb : dig b = true) : tw l k = 10 * lz a + lz b := by
  unfold tw; rw [h1, h2, if_pos ⟨ha, hb⟩]
/-- The seconds of a clock, read without a look. -/
def clo (ck : List UInt8) : Int := loose (ck.take 2) * 3600 + loose ((ck.drop 3).take 2) * 60 + loose (ck.drop 6)
def clt (l : List UInt8) (k : Nat) : Int := 3600 * tw l k + 60 * tw l (k + 3) + tw l (k + 6)
theorem clo_bd {ck : List UInt8} (h : ck.length = 8) : 0 ≤ clo ck ∧ clo ck ≤ 362439 := by
  have a := loose_bd (ck.take 2)
  have b := loose_bd ((ck.drop 3).take 2)
  have c := loose_bd (ck.drop 6)
  rw [show (ck.take 2).length = 2 by simp; omega] at a
  rw [show ((ck.drop 3).take 2).length = 2 by simp; omega] at b
  rw [show (ck.drop 6).length = 2 by simp; omega] at c
  unfold clo; omega
theorem clt_bd (l : List UInt8) (k : Nat) : -3661 ≤ clt l k ∧ clt l k ≤ 362439 := by
  have a := tw_bd l k; have b := tw_bd l (k + 3); have c := tw_bd l (k + 6); unfold clt; omega
theorem getD_back (p x : List UInt8) (k j : Nat) (h : k = p.length + j) : (p ++ x).getD k 0 = x.getD j 0 := by
  subst h; simp [List.getD_eq_getElem?_getD, List.getElem?_append_right]
theorem read1 {t y m d : Int} {l : List UInt8} (ht : InT t) (hy0 : 1970 ≤ y) (hy1 : y ≤ 2099) (hm0 : 1 ≤ m) (hm1 : m ≤ 12) (hd0 : 1 ≤ d) (hd1 : d ≤ 31) (h : l = form1 t y m d) :
    l.length = 29 ∧ (loose ((l.drop 12).take 4) = y ∧ monOf ((l.drop 8).take 3) = m ∧ loose ((l.drop 5).take 2) = d ∧ clo ((l.drop 17).take 8) = t % 86400) ∧ (100 * tw l 12 + tw l 14 = y ∧ tw l 5 = d ∧ clt l 17 = t % 86400) := by
  obtain ⟨w1, w2, w3, wr, hw, _, _⟩ := dnm3 (wkd_lt (t / 86400))
  obtain ⟨d1, d2, hd, qd1, qd2, qd⟩ := digs2 (n := d) (by omega) (by omega)
  obtain ⟨m1, m2, m3, hm, qm⟩ := monOf_mnm (k := (m - 1).toNat) (by omega)
  obtain ⟨y1, y2, y3, y4, hy, r1, r2, r3, r4, qy⟩ := digs4 hy0 hy1
  obtain ⟨a, b, c, z, f, g, hc, ⟨s1, s2, s3, s4, s5, s6⟩, qc⟩ := clk8 (s := t % 86400) (by have := ht.1; omega) (by omega)
  have e : l = [w1, w2, w3, 44, 32, d1, d2, 32, m1, m2, m3, 32, y1, y2, y3, y4, 32, a, b, 58, c, z, 58, f, g, 32, 71, 77, 84] := by
    rw [h]; unfold form1; rw [hw, hd, hm, hy, hc]; rfl
  clear h
  subst e
  refine ⟨rfl, ⟨(loose4 y1 y2 y3 y4).trans qy, qm.trans (by omega), (loose2 d1 d2).trans qd, ?_⟩, ?_, ?_, ?_⟩
  · show loose [a, b] * 3600 + loose [c, z] * 60 + loose [f, g] = _
    rw [loose2, loose2, loose2]; omega
  · rw [tw_yes (k := 12) (a := y1) (b := y2) rfl rfl r1 r2, tw_yes (k := 14) (a := y3) (b := y4) rfl rfl r3 r4]; omega
  · rw [tw_yes (k := 5) (a := d1) (b := d2) rfl rfl qd1 qd2]; omega
  · unfold clt; rw [tw_yes (k := 17) (a := a) (b := b) rfl rfl s1 s2, tw_yes (k := 20) (a := c) (b := z) rfl rfl s3 s4, tw_yes (k := 23) (a := f) (b := g) rfl rfl s5 s6]; omega
def dtw (l : List UInt8) : Int := if l.getD 8 0 = 32 then ((l.getD 9 0).toNat : Int) - 48 else tw l 8
theorem read3 {t y m d : Int} {l : List UInt8} (ht : InT t) (hy0 : 1970 ≤ y) (hy1 : y ≤ 2099) (hm0 : 1 ≤ m) (hm1 : m ≤ 12) (hd0 : 1 ≤ d) (hd1 : d ≤ 31) (h : l = form3 t y m d) :
    l.length = 24 ∧ (loose ((l.drop 20).take 4) = y ∧ monOf ((l.drop 4).take 3) = m ∧ loose ((l.drop 8).take 2) = d ∧ clo ((l.drop 11).take 8) = t % 86400) ∧ (100 * tw l 20 + tw l 22 = y ∧ dtw l = d ∧ clt l 11 = t % 86400) := by
  obtain ⟨w1, w2, w3, wr, hw, _, _⟩ := dnm3 (wkd_lt (t / 86400))
  obtain ⟨d1, d2, hd, qd1, qd2, qd⟩ := dtx2 (n := d) (by omega) (by omega)
  obtain ⟨m1, m2, m3, hm, qm⟩ := monOf_mnm (k := (m - 1).toNat) (by omega)
  obtain ⟨y1, y2, y3, y4, hy, r1, r2, r3, r4, qy⟩ := digs4 hy0 hy1
  obtain ⟨a, b, c, z, f, g, hc, ⟨s1, s2, s3, s4, s5, s6⟩, qc⟩ := clk8 (s := t % 86400) (by have := ht.1; omega) (by omega)
  have e : l = [w1, w2, w3, 32, m1, m2, m3, 32, d1, d2, 32, a, b, 58, c, z, 58, f, g, 32, y1, y2, y3, y4] := by
    rw [h]; unfold form3; rw [hw, hd, hm, hy, hc]; rfl
  clear h
  subst e
  refine ⟨rfl, ⟨(loose4 y1 y2 y3 y4).trans qy, qm.trans (by omega), (loose2 d1 d2).trans qd, ?_⟩, ?_, ?_, ?_⟩
  · show loose [a, b] * 3600 + loose [c, z] * 60 + loose [f, g] = _
    rw [loose2, loose2, loose2]; omega
  · rw [tw_yes (k := 20) (a := y1) (b := y2) rfl rfl r1 r2, tw_yes (k := 22) (a := y3) (b := y4) rfl rfl r3 r4]; omega
  · unfold dtw
    show (if d1 = 32 then ((d2.toNat : Nat) : Int) - 48 else _) = d
    split
    · rename_i hs
      subst hs
      have : lz 32 = 0 := by decide
      have h2 : lz d2 = (d2.toNat : Int) - 48 := by unfold lz; unfold dig at qd2; rw [if_pos (by simpa using qd2)]
      omega
    · rename_i hs
      rw [tw_yes (k := 8) (a := d1) (b := d2) rfl rfl (by rcases qd1 with q | q; exact absurd q hs; exact q) qd2]; omega
  · unfold clt; rw [tw_yes (k := 11) (a := a) (b := b) rfl rfl s1 s2, tw_yes (k := 14) (a := c) (b := z) rfl rfl s3 s4, tw_yes (k := 17) (a := f) (b := g) rfl rfl s5 s6]; omega
theorem read2 {t y m d : Int} {l : List UInt8} (ht : InT t) (hy0 : 1970 ≤ y) (hy1 : y ≤ 2099) (hm0 : 1 ≤ m) (hm1 : m ≤ 12) (hd0 : 1 ≤ d) (hd1 : d ≤ 31) (h : l = form2 t y m d) :
    (30 ≤ l.length ∧ l.length ≤ 33) ∧ (loose (((l.drop (l.length - 24)).drop 9).take 2) = y % 100 ∧ monOf (((l.drop (l.length - 24)).drop 5).take 3) = m ∧ loose (((l.drop (l.length - 24)).drop 2).take 2) = d ∧ clo (((l.drop (l.length - 24)).drop 12).take 8) = t % 86400) ∧ (tw l (l.length - 15) = y % 100 ∧ tw l (l.length - 22) = d ∧ clt l (l.length - 12) = t % 86400) := by
  obtain ⟨w1, w2, w3, wr, hw, hw1, hw2⟩ := dnm3 (wkd_lt (t / 86400))
  obtain ⟨d1, d2, hd, qd1, qd2, qd⟩ := digs2 (n := d) (by omega) (by omega)
  obtain ⟨m1, m2, m3, hm, qm⟩ := monOf_mnm (k := (m - 1).toNat) (by omega)
  obtain ⟨y1, y2, hy, r1, r2, qy⟩ := digs2 (n := y % 100) (by omega) (by omega)
  obtain ⟨a, b, c, z, f, g, hc, ⟨s1, s2, s3, s4, s5, s6⟩, qc⟩ := clk8 (s := t % 86400) (by have := ht.1; omega) (by omega)
  obtain ⟨p, hp⟩ : ∃ p, p = w1 :: w2 :: w3 :: wr := ⟨_, rfl⟩
  have hpl : p.length = wr.length + 3 := by rw [hp]; simp
  have e : l = p ++ [44, 32, d1, d2, 45, m1, m2, m3, 45, y1, y2, 32, a, b, 58, c, z, 58, f, g, 32, 71, 77, 84] := by
    rw [h]; unfold form2; rw [hw, hd, hm, hy, hc, hp]; simp
  clear h
  have hl : l.length = p.length + 24 := by rw [e]; simp
  have hdr : l.drop (l.length - 24) = [44, 32, d1, d2, 45, m1, m2, m3, 45, y1, y2, 32, a, b, 58, c, z, 58, f, g, 32, 71, 77, 84] := by
    rw [show l.length - 24 = p.length by omega, e]; simp
  have hg : ∀ k j, k = p.length + j → l.getD k 0 = ([44, 32, d1, d2, 45, m1, m2, m3, 45, y1, y2, 32, a, b, 58, c, z, 58, f, g, 32, 71, 77, 84] : List UInt8).getD j 0 := by
    intro k j hk; rw [e]; exact getD_back _ _ _ _ hk
  rw [hdr]
  refine ⟨by omega, ⟨(loose2 y1 y2).trans qy, qm.trans (by omega), (loose2 d1 d2).trans qd, ?_⟩, ?_, ?_, ?_⟩
  · show loose [a, b] * 3600 + loose [c, z] * 60 + loose [f, g] = _
    rw [loose2, loose2, loose2]; omega
  · rw [tw_yes (k := l.length - 15) (hg _ 9 (by omega)) (hg _ 10 (by omega)) r1 r2]; exact qy
  · rw [tw_yes (k := l.length - 22) (hg _ 2 (by omega)) (hg _ 3 (by omega)) qd1 qd2]; exact qd
  · unfold clt; rw [tw_yes (k := l.length - 12) (hg _ 12 (by omega)) (hg _ 13 (by omega)) s1 s2, tw_yes (k := l.length - 12 + 3) (hg _ 15 (by omega)) (hg _ 16 (by omega)) s3 s4, tw_yes (k := l.length - 12 + 6) (hg _ 18 (by omega)) (hg _ 19 (by omega)) s5 s6]; show 3600 * (10 * lz a + lz b) + 60 * (10 * lz c + lz z) + (10 * lz f + lz g) = _; omega
theorem cv_bd {day y m d : Int} (h : CV day y m d) : 1970 ≤ y ∧ y ≤ 2099 ∧ 1 ≤ m ∧ m ≤ 12 ∧ 1 ≤ d ∧ d ≤ 31 := by
  obtain ⟨a, b, c, e, f, g, _⟩ := h
  have := dim_bd y m c e
  exact ⟨a, b, c, e, f, by omega⟩
theorem dof_pos {y m d : Int} (h : ¬ dof y m d < 0) : CV (dof y m d) y m d := by
  unfold dof at h ⊢
  split at h
  · rename_i q
    rw [if_pos q]
    exact ⟨q.1, q.2.1, q.2.2.1, q.2.2.2.1, q.2.2.2.2.1, q.2.2.2.2.2, rfl⟩
  · omega
theorem dof_bd (y m d : Int) : -1 ≤ dof y m d ∧ dof y m d ≤ 47481 := by
  by_cases h : dof y m d < 0
  · unfold dof at h ⊢
    split
    · rename_i q
      have := dby_bd (y - 1970).toNat
      have := cum_bd y (m - 1).toNat (by omega)
      rw [if_pos q] at h
      omega
    · omega
  · have hc := dof_pos h
    have h1 := cv_rest hc
    have h2 := dby_mono (a := (y - 1970 + 1).toNat) (b := 130) (by have := hc.2.1; omega)
    rw [dby_all] at h2
    omega
end Go.Proofs.YtilephkbcikfbaaDoor.Dt

/-
  FROM A ROW's LISTED VARIABLES to what the contracts ask of the world: the program's table of months, wherever it stands on the list.
-/
namespace Go.Proofs.YtilephkbcikfbaaDoor.Laid
open Go
set_option linter.unusedVariables false
set_option maxRecDepth 1000000

theorem of_vars' {P : Program} {w : World} : ∀ {l : List (String × DataW Unit)} {ps : List MemPlace}, DataW.LaidVars P w l ps → ∀ n d, (n, d) ∈ l →
    ∃ g t cs fuel p, P.globalNamed n = some g ∧ (P.globals[g]?).map (·.type) = some t ∧ w.var? P n = some cs ∧ DataW.trod (fun _ => ()) P w 0 (fun _ => true) false fuel t cs.toList = some (d, p)
  | [], _, _, _, _, hm => by cases hm
  | (n', d') :: r, ps, h, n, d, hm => by
    obtain ⟨g, t, cs, fuel, p, q, h1, h2, h3, h4, h5, _⟩ := h
    rcases List.mem_cons.1 hm with e | e
    · cases e
      exact ⟨g, t, cs, fuel, p, h1, h2, h3, h4⟩
    · exact of_vars' h5 n d e
theorem mds_datum : (Rows.laid_loop_example_g03012_impl_monthDays : DataW Unit) = Lib.tabData .i64 Dt.mdays := by kernel_rfl
theorem mds {l : List (String × DataW Unit)} {W : World} (h : laidMet Tryd.prog l W) (hm : ("loop.example/g03012/impl.monthDays", Rows.laid_loop_example_g03012_impl_monthDays) ∈ l) : Dt.Mds W := by
  obtain ⟨ps, hv, _⟩ := h
  obtain ⟨g, t, cs, fuel, p, hg, ht, hvar, hd⟩ := of_vars' hv _ _ hm
  obtain rfl := Option.some.inj ((show Tryd.prog.globalNamed "loop.example/g03012/impl.monthDays" = some 2 by kernel_rfl).symm.trans hg)
  obtain rfl := Option.some.inj ((show (Tryd.prog.globals[2]?).map (·.type) = some 56 by kernel_rfl).symm.trans ht)
  rw [mds_datum] at hd
  unfold Dt.Mds Lib.TabIs
  rw [hvar, ← Lib.cells_of_tab Tryd.underlying56 Tryd.underlying3 (by kernel_rfl) (by kernel_rfl) hd]
end Go.Proofs.YtilephkbcikfbaaDoor.Laid

/-
  FROM A ROW's LISTED VARIABLES to what the contracts ask of the world: the program's tables of names, wherever they stand on the list.
-/
namespace Go.Proofs.YtilephkbcikfbaaDoor.Dt
open Go Go.RowKit
set_option linter.unusedVariables false
set_option maxRecDepth 1000000

def txv (x : List UInt8) : Value := .string ⟨x.toArray⟩
def txData {H : Type} (xs : List (List UInt8)) : DataW H := .agg (xs.map fun x => .lit (.string x))
/-- An array of texts that reads as these texts holds them, cell for cell. -/
theorem cells_of_texts {P : Program} {w : World} {base : Nat} {sp : Nat → Bool} {held : Bool} {fuel : Nat} {t e : TypeId} {n : Nat} {cs : List Value} {zs : List (List UInt8)} {p : List MemPlace}
    (ht : P.underlying t = some (.array n e)) (he : P.underlying e = some .string) (hce : P.cellsOf e = 1) (hct : P.cellsOf t = n)
    (h : DataW.trod (fun _ => ()) P w base sp held fuel t cs = some (txData zs, p)) : cs = zs.map txv := by
  cases fuel with
  | zero => simp [DataW.trod] at h
  | succ fuel =>
    simp only [DataW.trod, ht, hce, hct, Nat.mul_one] at h
    split at h
    · rename_i hl
      obtain ⟨xs, hm, hx⟩ := Option.map_eq_some_iff.1 h
      have hxs : xs.map (·.1) = zs.map fun z => (DataW.lit (.string z) : DataW Unit) := by
        have := congrArg Prod.fst hx
        simpa [txData] using this
      have hxl : xs.length = n := by simpa using Lib.mapM_length hm
      have hzl : zs.length = n := by
        have := congrArg List.length hxs
        simp at this; omega
      apply List.ext_getElem?
      intro i
      by_cases hi : i < n
      · obtain ⟨b, hb, hf⟩ := Lib.mapM_at hm i i (by simp [hi])
        obtain ⟨s, hc, rfl, _⟩ := DataW.trod_string he hf
        have h1 : cs[i]? = some (.string s) := by
          have := congrArg (·[0]?) hc
          simpa [List.getElem?_take, List.getElem?_drop] using this
        have h2 : (xs.map (·.1))[i]? = some (DataW.lit (.string s.data.toList) : DataW Unit) := by simp [hb]
        rw [hxs] at h2
        simp only [List.getElem?_map, Option.map_eq_some_iff, DataW.lit.injEq, Lit.string.injEq] at h2
        obtain ⟨z', hz', e'⟩ := h2
        rw [h1, List.getElem?_map, hz']
        simp [txv, e']
      · rw [List.getElem?_eq_none (by omega), List.getElem?_eq_none (by simp; omega)]
    · cases h
def Names (w : World) : Prop := w.var? Tryd.prog "loop.example/g03012/impl.weekdayNames" = some (days7.map txv).toArray ∧ w.var? Tryd.prog "loop.example/g03012/impl.monthNames" = some (mons12.map txv).toArray
theorem names_below {W w1 : World} (h : Names W) (hb : Below W.heap.size W w1) : Names w1 := ⟨Base.var_below h.1 hb, Base.var_below h.2 hb⟩
theorem day_cell {w : World} (h : Names w) {k : Nat} (hk : k < 7) : w.cell? ⟨0, k, none⟩ = some (.string ⟨(dnm k).toArray⟩) := by
  rw [cell_of_var (name := "loop.example/g03012/impl.weekdayNames") (by kernel_rfl) h.1]
  have : ∀ k : Fin 7, ((days7.map txv).toArray)[k.1]? = some (.string ⟨(dnm k.1).toArray⟩) := by intro k; match k with | ⟨0, _⟩ => rfl | ⟨1, _⟩ => rfl | ⟨2, _⟩ => rfl | ⟨3, _⟩ => rfl | ⟨4, _⟩ => rfl | ⟨5, _⟩ => rfl | ⟨6, _⟩ => rfl
  exact this ⟨k, hk⟩
theorem mon_cell {w : World} (h : Names w) {k : Nat} (hk : k < 12) : w.cell? ⟨1, k, none⟩ = some (.string ⟨(mnm k).toArray⟩) := by
  rw [cell_of_var (name := "loop.example/g03012/impl.monthNames") (by kernel_rfl) h.2]
  have : ∀ k : Fin 12, ((mons12.map txv).toArray)[k.1]? = some (.string ⟨(mnm k.1).toArray⟩) := by intro k; match k with | ⟨0, _⟩ => rfl | ⟨1, _⟩ => rfl | ⟨2, _⟩ => rfl | ⟨3, _⟩ => rfl | ⟨4, _⟩ => rfl | ⟨5, _⟩ => rfl | ⟨6, _⟩ => rfl | ⟨7, _⟩ => rfl | ⟨8, _⟩ => rfl | ⟨9, _⟩ => rfl | ⟨10, _⟩ => rfl | ⟨11, _⟩ => rfl
  exact this ⟨k, hk⟩
theorem days_datum : (Rows.laid_loop_example_g03012_impl_weekdayNames : DataW Unit) = txData days7 := by kernel_rfl
theorem mons_datum : (Rows.laid_loop_example_g03012_impl_monthNames : DataW Unit) = txData mons12 := by kernel_rfl
theorem laid_names {l : List (String × DataW Unit)} {W : World} (h : laidMet Tryd.prog l W) (h1 : ("loop.example/g03012/impl.weekdayNames", Rows.laid_loop_example_g03012_impl_weekdayNames) ∈ l) (h2 : ("loop.example/g03012/impl.monthNames", Rows.laid_loop_example_g03012_impl_monthNames) ∈ l) : Names W := by
  obtain ⟨ps, hv, _⟩ := h
  constructor
  · obtain ⟨g, t, cs, fuel, p, hg, ht, hvar, hd⟩ := Laid.of_vars' hv _ _ h1
    obtain rfl := Option.some.inj ((show Tryd.prog.globalNamed "loop.example/g03012/impl.weekdayNames" = some 0 by kernel_rfl).symm.trans hg)
    obtain rfl := Option.some.inj ((show (Tryd.prog.globals[0]?).map (·.type) = some 52 by kernel_rfl).symm.trans ht)
    rw [days_datum] at hd
    rw [hvar, ← cells_of_texts Tryd.underlying52 Tryd.underlying9 (by kernel_rfl) (by kernel_rfl) hd]
  · obtain ⟨g, t, cs, fuel, p, hg, ht, hvar, hd⟩ := Laid.of_vars' hv _ _ h2
    obtain rfl := Option.some.inj ((show Tryd.prog.globalNamed "loop.example/g03012/impl.monthNames" = some 1 by kernel_rfl).symm.trans hg)
    obtain rfl := Option.some.inj ((show (Tryd.prog.globals[1]?).map (·.type) = some 53 by kernel_rfl).symm.trans ht)
    rw [mons_datum] at hd
    rw [hvar, ← cells_of_texts Tryd.underlying53 Tryd.underlying9 (by kernel_rfl) (by kernel_rfl) hd]
end Go.Proofs.YtilephkbcikfbaaDoor.Dt

/-
  CONTRACT of the program's WeekdayOf: at every integer of 64 bits it returns the weekday; the world stays as it was.
-/
namespace Go.Proofs.YtilephkbcikfbaaDoor.Dt
open Go Go.RowKit
set_option linter.unusedVariables false
set_option maxRecDepth 1000000

theorem impl_week (d : Int) (w : World) (wd : (Lit.int .i64 d).wf = true) :
    Calls Tryd.prog 12 #[.int .i64 d] w fun e w' => e = .returned (.int .i64 ((d % 7 + 4) % 7)) ∧ w = w' := by
  have c1 := mod_i d 7 w wd (by omega) (by omega)
  have h0 : 0 ≤ d % 7 := by omega
  have h1 : d % 7 ≤ 6 := by omega
  generalize d % 7 = a at *
  have c2 := mod_i (a + 4) 7 w (Go.WalkArith.wf_i64 ⟨by omega, by omega⟩) (by omega) (by omega)
  generalize (a + 4) % 7 = b at *
  go_enter Tryd.func12, Tryd.ntmps12
  go_wp2_with (fail)
  go_at_call 13
  refine c1.mono ?_
  rintro e w' ⟨rfl, rfl⟩
  go_wp2_with (fail)
  go_at_call 13
  refine c2.mono ?_
  rintro e w' ⟨rfl, rfl⟩
  go_wp2
  go_ret
  exact ⟨rfl, rfl⟩
end Go.Proofs.YtilephkbcikfbaaDoor.Dt
