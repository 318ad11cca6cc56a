/- What bars' spring answers; springs at an address. -/
import Derived.Test.YtfipmopmpacdaaaGreatDoorJB
import Derived.Test.YtfipmopmpacdaaaGreatDoorBA
import Derived.Test.YtfipmopmpacdaaaGreatDoorBD
namespace Go.Proofs.YtfipmopmpacdaaaGreatDoor
open Go.RowKit
abbrev Am := (Nat × Nat) × Nat
def aX (x : Nat) : Am := ((x, x), x)
def aM (a b : Am) : Am := (muP a.1 b.1, mulB 0 a.2 b.2)
def aD (a b : Am) : Am := (diP a.1 b.1, divB 0 a.2 b.2)
def aR (x : Nat) : Am := (sqP (x, x), sqB 0 x)
structure Amt (a : Am) (K : Nat × Nat) : Prop where
 rt : RtP a.1
 fn : Fn a.2
 nr : Wt (a.2, a.2) a.1
 kw : Wt a.1 K
structure PosK (K : Nat × Nat) : Prop where
 rt : RtP K
 lo : 0 < place K.1
 hi : place K.2 < 9218868437227405312
theorem pos_facts {x : Nat} (_ : Fn x) (h0 : 0 < place x) (h1 : place x < 9218868437227405312) : finB x = true ∧ (rung x == 0) = false ∧ sgn x = false ∧ rung x ≠ 0 := by
 unfold place at h0 h1
 cases s : sgn x
 ·rw [s] at h0 h1
  simp only [Bool.false_eq_true, if_false] at h0 h1
  exact ⟨by unfold finB; simp; omega, by simp; omega, rfl, by omega⟩
 ·rw [s] at h0
  simp only [if_true] at h0
  omega
theorem Wt.trans {p q r : Nat × Nat} (h : Wt p q) (g : Wt q r) : Wt p r := ⟨Int.le_trans g.1 h.1, Int.le_trans h.2 g.2⟩
theorem Amt.pos {a : Am} {K : Nat × Nat} (h : Amt a K) (k : PosK K) : PosK a.1 :=
 ⟨h.rt, Int.lt_of_lt_of_le k.lo h.kw.1, Int.lt_of_le_of_lt h.kw.2 k.hi⟩
theorem PosK.ends {K : Nat × Nat} (k : PosK K) : (0 < place K.1 ∧ place K.1 < 9218868437227405312) ∧ (0 < place K.2 ∧ place K.2 < 9218868437227405312) := by
 have := k.rt.pl.1
 have := k.lo
 have := k.hi
 omega
theorem Amt.near {a : Am} {K : Nat × Nat} (h : Amt a K) (k : PosK K) : 0 < place a.2 ∧ place a.2 < 9218868437227405312 := by
 have p := (h.pos k).ends
 have := h.nr.1
 have := h.nr.2
 simp only at *
 omega
theorem PosK.no0 {K : Nat × Nat} (k : PosK K) : No0 K := by
 have e := k.ends
 have a := pos_facts k.rt.fn.1 e.1.1 e.1.2
 have b := pos_facts k.rt.fn.2 e.2.1 e.2.2
 exact ⟨a.2.2.2, b.2.2.2, by rw [a.2.2.1, b.2.2.1]⟩
theorem PosK.mid {K : Nat × Nat} (k : PosK K) : (leF K.1 0 && leF 0 K.2) = false := by
 rw [leF_num k.rt.1 (by omega) k.rt.fn.1.2 (by decide)]
 have := k.lo
 have e : decide (place K.1 ≤ place 0) = false := by
  rw [show place 0 = 0 by decide]
  simp; omega
 rw [e]; rfl
theorem mul_mid {x y : Nat} (hx : Fn x) (hy : Fn y) (x0 : 0 < place x ∧ place x < 9218868437227405312) (y0 : 0 < place y ∧ place y < 9218868437227405312) :
  (floatBits .mul .f64 x y).isSome = true ∧ Fn (mulB 0 x y) ∧ place (tB 1 x y) ≤ place (mulB 0 x y) ∧ place (mulB 0 x y) ≤ place (tB 2 x y) := by
 obtain ⟨fx, zx, _, _⟩ := pos_facts hx x0.1 x0.2
 obtain ⟨fy, zy, _, _⟩ := pos_facts hy y0.1 y0.2
 have c : ((rung x == 0 && !finB y) || (rung y == 0 && !finB x)) = false := by rw [zx, zy]; rfl
 have o := mulS_ok hx.1 hy.1 hx.2 hy.2 c
 have t : ∀ m, tB m x y = mulB m x y := fun m => by unfold tB; rw [c]; rfl
 rw [t, t]
 have e0 : dO 2 x y 0 0 = some (mulB 0 x y) := mulO_some 0 o
 have e1 : dO 2 x y 0 1 = some (mulB 1 x y) := mulO_some 1 o
 have e2 : dO 2 x y 0 2 = some (mulB 2 x y) := mulO_some 2 o
 rcases ways_2 (a := x) (b := y) 0 hx hy with g | ⟨d, n, u, z, g1, g2, g3, _, r1, r2, r3, _, r5, r6, _⟩
 ·rw [g 1] at e1; cases e1
 ·rw [e1] at g1; rw [e0] at g2; rw [e2] at g3
  cases g1; cases g2; cases g3
  exact ⟨o, r2, r5, r6⟩
theorem div_mid {x y : Nat} (hx : Fn x) (hy : Fn y) (x0 : 0 < place x ∧ place x < 9218868437227405312) (y0 : 0 < place y ∧ place y < 9218868437227405312) :
  (floatBits .quo .f64 x y).isSome = true ∧ Fn (divB 0 x y) ∧ place (oB 1 x y) ≤ place (divB 0 x y) ∧ place (divB 0 x y) ≤ place (oB 2 x y) := by
 obtain ⟨fx, zx, _, _⟩ := pos_facts hx x0.1 x0.2
 obtain ⟨fy, zy, _, ny⟩ := pos_facts hy y0.1 y0.2
 have c : (!finB x && !finB y) = false := by rw [fx]; rfl
 have o := divS_ok hx.1 hy.1 hx.2 hy.2 c ny
 rw [oB_fin 1 fy, oB_fin 2 fy]
 have e0 : dO 3 x y 0 0 = some (divB 0 x y) := divO_some 0 o
 have e1 : dO 3 x y 0 1 = some (divB 1 x y) := divO_some 1 o
 have e2 : dO 3 x y 0 2 = some (divB 2 x y) := divO_some 2 o
 rcases ways_3 (a := x) (b := y) 0 hx hy with g | ⟨d, n, u, z, g1, g2, g3, _, r1, r2, r3, _, r5, r6, _⟩
 ·rw [g 1] at e1; cases e1
 ·rw [e1] at g1; rw [e0] at g2; rw [e2] at g3
  cases g1; cases g2; cases g3
  exact ⟨o, r2, r5, r6⟩
theorem amt_one {x : Nat} (hx : Fn x) (h0 : 0 < place x) (h1 : place x < 9218868437227405312) {K : Nat × Nat} (k1 : place K.1 ≤ place x) (k2 : place x ≤ place K.2) : Amt (aX x) K :=
 ⟨RtP.mk hx hx (Int.le_refl _) (by simp only [aX]; omega) (by simp only [aX]; omega), hx, ⟨Int.le_refl _, Int.le_refl _⟩, ⟨k1, k2⟩⟩
theorem amt_mul {a b : Am} {K L M : Nat × Nat} (ha : Amt a K) (hb : Amt b L) (k : PosK K) (l : PosK L) (hM : muP K L = M) : Amt (aM a b) M ∧ (floatBits .mul .f64 a.2 b.2).isSome = true := by
 obtain ⟨o, n, p, q⟩ := mul_mid ha.fn hb.fn (ha.near k) (hb.near l)
 have m := mul_point ha.rt.fn.1 ha.rt.fn.2 hb.rt.fn.1 hb.rt.fn.2 ha.fn hb.fn ha.nr.1 ha.nr.2 hb.nr.1 hb.nr.2
 refine ⟨⟨muP_rt ha.rt hb.rt, n, ⟨?_, ?_⟩, ?_⟩, o⟩
 ·exact Int.le_trans m.1 p
 ·exact Int.le_trans q m.2
 ·rw [← hM]
  exact muP_wt ha.rt hb.rt k.rt l.rt ha.kw hb.kw
theorem amt_div {a b : Am} {K L M : Nat × Nat} (ha : Amt a K) (hb : Amt b L) (k : PosK K) (l : PosK L) (hM : diP K L = M) : Amt (aD a b) M ∧ (floatBits .quo .f64 a.2 b.2).isSome = true := by
 obtain ⟨o, n, p, q⟩ := div_mid ha.fn hb.fn (ha.near k) (hb.near l)
 have nb := (hb.pos l).no0
 have y0 := (pos_facts hb.fn (hb.near l).1 (hb.near l).2).2.2.2
 have m := div_point ha.rt.fn.1 ha.rt.fn.2 hb.rt.fn.1 hb.rt.fn.2 ha.fn hb.fn nb.1 nb.2.1 y0 nb.2.2 ha.nr.1 ha.nr.2 hb.nr.1 hb.nr.2
 refine ⟨⟨diP_rt ha.rt hb.rt nb, n, ⟨?_, ?_⟩, ?_⟩, o⟩
 ·exact Int.le_trans m.1 p
 ·exact Int.le_trans q m.2
 ·rw [← hM]
  exact diP_wt ha.rt hb.rt k.rt l.rt ha.kw hb.kw l.no0 nb
abbrev k60 : Nat × Nat := (4336966441157787648, 4877398396442247168)
abbrev kSq : Nat × Nat := (4607182418800017408, 4800837202776948736)
abbrev kLn : Nat × Nat := (4607182418800017408, 4706261610602168320)
abbrev kP : Nat × Nat := (4066750463515557888, 5147614374084476928)
abbrev kSL : Nat × Nat := (4607182418800017408, 4899916394579099648)
abbrev kAx : Nat × Nat := (3774016487736475648, 5147614374084476928)
abbrev k3 : Nat × Nat := (4613937818241073152, 4613937818241073152)
abbrev kB3 : Nat × Nat := (4073505862956613632, 5154369773525532672)
abbrev kSS : Nat × Nat := (4607182418800017408, 4994491986753880064)
abbrev kSSL : Nat × Nat := (4607182418800017408, 5093571178556030976)
abbrev kAc : Nat × Nat := (3587117103200600064, 5154369773525532672)
abbrev kEn : Nat × Nat := (3967671271713406976, 5147614374084476928)
theorem pos_k60 : PosK k60 := ⟨⟨by decide, by decide, by decide⟩, by decide, by decide⟩
theorem pos_kSq : PosK kSq := ⟨⟨by decide, by decide, by decide⟩, by decide, by decide⟩
theorem pos_kLn : PosK kLn := ⟨⟨by decide, by decide, by decide⟩, by decide, by decide⟩
theorem pos_kP : PosK kP := ⟨⟨by decide, by decide, by decide⟩, by decide, by decide⟩
theorem pos_kSL : PosK kSL := ⟨⟨by decide, by decide, by decide⟩, by decide, by decide⟩
theorem pos_kAx : PosK kAx := ⟨⟨by decide, by decide, by decide⟩, by decide, by decide⟩
theorem pos_k3 : PosK k3 := ⟨⟨by decide, by decide, by decide⟩, by decide, by decide⟩
theorem pos_kB3 : PosK kB3 := ⟨⟨by decide, by decide, by decide⟩, by decide, by decide⟩
theorem pos_kSS : PosK kSS := ⟨⟨by decide, by decide, by decide⟩, by decide, by decide⟩
theorem pos_kSSL : PosK kSSL := ⟨⟨by decide, by decide, by decide⟩, by decide, by decide⟩
theorem pos_kAc : PosK kAc := ⟨⟨by decide, by decide, by decide⟩, by decide, by decide⟩
theorem pos_kEn : PosK kEn := ⟨⟨by decide, by decide, by decide⟩, by decide, by decide⟩
theorem is_kP : muP k60 k60 = kP := by kernel_rfl
theorem is_kSL : muP kSq kLn = kSL := by kernel_rfl
theorem is_kB3 : muP k3 kP = kB3 := by kernel_rfl
theorem is_kSS : muP kSq kSq = kSS := by kernel_rfl
theorem is_kSSL : muP kSS kLn = kSSL := by kernel_rfl
theorem is_kAx : diP kP kSL = kAx := by kernel_rfl
theorem is_kAc : diP kB3 kSSL = kAc := by kernel_rfl
theorem is_kEn : diP kP kLn = kEn := by kernel_rfl
theorem nb_facts {x : Nat} (hx : x < 18446744073709551616) (h : nbB x = true) : Fn x ∧ place 4336966441157787648 ≤ place x ∧ place x ≤ place 4877398396442247168 := by
 unfold nbB at h
 simp only [Bool.and_eq_true] at h
 have n : nanB x = false := by
  cases q : nanB x
  ·rfl
  ·have := leF_nan (a := 4336966441157787648) (b := x) (by omega) hx (Or.inr q)
   rw [this] at h
   exact absurd h.1 (by simp)
 have h1 := h.1
 have h2 := h.2
 rw [leF_num (by omega) hx (by decide) n] at h1
 rw [leF_num hx (by omega) n (by decide)] at h2
 exact ⟨⟨hx, n⟩, by simpa using h1, by simpa using h2⟩
theorem amt_num {x : Nat} (hx : x < 18446744073709551616) (h : nbB x = true) : Amt (aX x) k60 := by
 obtain ⟨f, a, b⟩ := nb_facts hx h
 have e1 : place 4336966441157787648 = 4336966441157787648 := by decide
 have e2 : place 4877398396442247168 = 4877398396442247168 := by decide
 exact amt_one f (by omega) (by omega) a b
theorem num_fin {x : Nat} (hx : x < 18446744073709551616) (h : nbB x = true) : finB x = true := by
 obtain ⟨f, a, b⟩ := nb_facts hx h
 have e1 : place 4336966441157787648 = 4336966441157787648 := by decide
 have e2 : place 4877398396442247168 = 4877398396442247168 := by decide
 exact (pos_facts f (by omega) (by omega)).1
structure R6 where
 r0 : Int
 r1 : Int
 r2 : Int
 r3 : Int
 r4 : Int
 r5 : Int
structure Sg where
 m : Int
 k : Nat
 r : R6
 a : Am
def r6V (r : R6) : Value := .agg #[.int .i64 r.r0, .int .i64 r.r1, .int .i64 r.r2, .int .i64 r.r3, .int .i64 r.r4, .int .i64 r.r5]
def sgV (s : Sg) : Value := .agg #[.int .i64 s.m, .int .u8 s.k, .int .i64 s.r.r0, .int .i64 s.r.r1, .int .i64 s.r.r2, .int .i64 s.r.r3, .int .i64 s.r.r4, .int .i64 s.r.r5, .float .f64 s.a.1.1, .float .f64 s.a.1.2, .float .f64 s.a.2]
def sgz : Sg := ⟨0, 0, ⟨0, 0, 0, 0, 0, 0⟩, ((0, 0), 0)⟩
def axA (L : Am) (s e ar : Nat) : Am := aD (aM (aX e) (aX ar)) (aM (aX s) L)
def acA (L : Am) (s e i : Nat) : Am := aD (aM (aX 4613937818241073152) (aM (aX e) (aX i))) (aM (aM (aX s) (aX s)) L)
def enA (L : Am) (e i : Nat) : Am := aD (aM (aX e) (aX i)) L
def spK (m : Mb) (p q : Jn) : List Sg :=
 let d := aptA p q
 let L := aR (l2F p q)
 let s := l2F p q
 let ax : Sg := ⟨0, 1, ⟨-d.1, -d.2.1, 0, d.1, d.2.1, 0⟩, axA L s m.e m.ar⟩
 if m.kd = 1 ∨ (m.ha = true ∧ m.hb = true) then [ax]
 else if m.ha then [ax, ⟨0, 4, ⟨-d.2.1, d.1, 0, d.2.1, -d.1, d.2.2⟩, acA L s m.e m.i⟩]
 else if m.hb then [ax, ⟨0, 4, ⟨-d.2.1, d.1, d.2.2, d.2.1, -d.1, 0⟩, acA L s m.e m.i⟩]
 else [ax, ⟨0, 2, ⟨-2 * d.2.1, 2 * d.1, d.2.2, 2 * d.2.1, -2 * d.1, d.2.2⟩, acA L s m.e m.i⟩, ⟨0, 3, ⟨0, 0, 1, 0, 0, -1⟩, enA L m.e m.i⟩]
theorem amt_root {x : Nat} (hx : Fn x) (h0 : place 4607182418800017408 ≤ place x) (h1 : place x ≤ place 4800837202776948736) : Amt (aR x) kLn := by
 have e1 : place 4607182418800017408 = 4607182418800017408 := by decide
 have e2 : place 4800837202776948736 = 4800837202776948736 := by decide
 have hr : RtP (x, x) := RtP.mk hx hx (Int.le_refl _) (by simp only; omega) (by simp only; omega)
 have p0 : 0 ≤ place x := by omega
 have o := root_ok hx p0
 have d0 : dO 4 x 0 0 0 = some (sqB 0 x) := sqO_some 0 o
 have d1 : dO 4 x 0 0 1 = some (sqB 1 x) := sqO_some 1 o
 have d2 : dO 4 x 0 0 2 = some (sqB 2 x) := sqO_some 2 o
 have k : Fn (sqB 0 x) ∧ place (sqB 1 x) ≤ place (sqB 0 x) ∧ place (sqB 0 x) ≤ place (sqB 2 x) := by
  rcases ways_4 (a := x) (b := 0) 0 hx with g | ⟨d, n, u, z, g1, g2, g3, _, r1, r2, r3, _, r5, r6, _⟩
  ·rw [g 1] at d1; cases d1
  ·rw [d1] at g1; rw [d0] at g2; rw [d2] at g3
   cases g1; cases g2; cases g3
   exact ⟨r2, r5, r6⟩
 have s1 : sqO 4607182418800017408 1 = some 4607182418800017408 := by kernel_rfl
 have s2 : ∃ t, sqO 4800837202776948736 2 = some t ∧ place t ≤ place 4706261610602168320 := ⟨_, rfl, of_decide_eq_true (by kernel_rfl)⟩
 obtain ⟨t, s2, s3⟩ := s2
 have l1 := sqO_le 1 ⟨by decide, by decide⟩ hx h0 _ _ s1 d1
 have l2 := sqO_le 2 hx ⟨by decide, by decide⟩ h1 _ _ d2 s2
 exact ⟨sqP_rt hr p0, k.1, ⟨k.2.1, k.2.2⟩, ⟨l1, by have := Int.le_trans l2 s3; exact this⟩⟩
theorem val_one {E : Nat} (hE : E = 1074) : val 4607182418800017408 = 1 * 2 ^ E ∧ val 4800837202776948736 = 8796093022208 * 2 ^ E := by
 subst hE
 exact ⟨by kernel_rfl, by kernel_rfl⟩
theorem amt_len {E : Nat} (hE : E = 1074) (p q : Jn) (h : (aptA p q).2.2 ≠ 0) : Amt (aX (l2F p q)) kSq ∧ Amt (aR (l2F p q)) kLn ∧ finB (l2F p q) = true ∧ l2F p q < 18446744073709551616 := by
 obtain ⟨k, k1, k2, k3⟩ := l2F_facts hE p q
 obtain ⟨h0, h1⟩ := aptA_bd p q
 obtain ⟨v1, v2⟩ := val_one hE
 obtain ⟨n, hn⟩ : ∃ n, (aptA p q).2.2.natAbs = n := ⟨_, rfl⟩
 rw [hn] at k3
 have n1 : 1 ≤ n := by omega
 have n2 : n ≤ 8796093022208 := by omega
 have g1 : 4607182418800017408 ≤ k := by
  rcases Nat.lt_or_ge k 4607182418800017408 with c | c
  ·have := val_lt c
   rw [k3, v1] at this
   have := Nat.mul_le_mul_right (2 ^ E) n1
   omega
  ·exact c
 have g2 : k ≤ 4800837202776948736 := by
  rcases Nat.lt_or_ge 4800837202776948736 k with c | c
  ·have := val_lt c
   rw [k3, v2] at this
   have := Nat.mul_le_mul_right (2 ^ E) n2
   omega
  ·exact c
 obtain ⟨f, pk⟩ := fin_fn k1
 have e1 : place 4607182418800017408 = 4607182418800017408 := by decide
 have e2 : place 4800837202776948736 = 4800837202776948736 := by decide
 rw [k2]
 refine ⟨amt_one f (by omega) (by omega) (by simp only; omega) (by simp only; omega), amt_root f (by omega) (by omega), (pos_facts f (by omega) (by omega)).1, by omega⟩
theorem aptA_bd2 (p q : Jn) : (-2097152 ≤ (aptA p q).1 ∧ (aptA p q).1 ≤ 2097152) ∧ (-2097152 ≤ (aptA p q).2.1 ∧ (aptA p q).2.1 ≤ 2097152) := by
 unfold aptA
 split
 ·rename_i h
  unfold aptB at h
  obtain ⟨⟨⟨a1, a2⟩, a3⟩, a4⟩ : ((crB p.2.1 = true ∧ crB p.2.2.1 = true) ∧ crB q.2.1 = true) ∧ crB q.2.2.1 = true := by simpa using h
  have a1 := kcr_le a1
  have a2 := kcr_le a2
  have a3 := kcr_le a3
  have a4 := kcr_le a4
  simp only
  omega
 ·simp
def amV (a : Am) : Value := .agg #[.float .f64 a.1.1, .float .f64 a.1.2, .float .f64 a.2]
theorem below_two {B g : Nat} {w w' : World} (h : Below B w w') (hg : B ≤ g) (x y : Value) : Below B w ((w'.setCell ⟨g, 0, none⟩ x).setCell ⟨g, 1, none⟩ y) :=
 (h.setCell (p := ⟨g, 0, none⟩) hg _).setCell (p := ⟨g, 1, none⟩) hg _
theorem below_thr {B g : Nat} {w w' : World} (h : Below B w w') (hg : B ≤ g) (x y z : Value) : Below B w (((w'.setCell ⟨g, 0, none⟩ x).setCell ⟨g, 1, none⟩ y).setCell ⟨g, 2, none⟩ z) :=
 (below_two h hg x y).setCell (p := ⟨g, 2, none⟩) hg _
set_option maxHeartbeats 2000000 in
theorem bexact_any (x : Nat) (hx : x < 18446744073709551616) (hf : finB x = true) (w : World) :
  Calls Tryz.prog 33 #[.float .f64 x] w fun e w' => e = .returned (amV (aX x)) ∧ Below w.heap.size w w' := by
 have c := fun w' => sof_any x hx w'
 rw [hf] at c
 simp only [if_true] at c
 have hst := run_storef Tryz.prog
 have T0 := T3.new w (.float .f64 0) (.float .f64 0) (.float .f64 0) 86
 have hb0 : Below w.heap.size w (w.alloc (.cells #[.float .f64 0, .float .f64 0, .float .f64 0] 86)) := (Below.refl _ _).alloc (Nat.le_refl _) _
 unfold amV aX
 simp only
 go_enter Tryz.func33, Tryz.ntmps33
 go_upto_region 1 with fail
 generalize w.alloc (.cells #[.float .f64 0, .float .f64 0, .float .f64 0] 86) = W0 at *
 go_upto_region 2 with (go_at_call 54; refine (c _).mono ?_; rintro e w1 ⟨rfl, b1⟩)
 have st : Below w1.heap.size w1 (w1.alloc (.cells #[.float .f64 x, .float .f64 x] 43)) := (Below.refl _ _).alloc (Nat.le_refl _) _
 have b2 := b1.trans (st.mono b1.size)
 have T1 := T0.below b2
 have hb2 := hb0.trans (b2.mono hb0.size)
 have B0 := Bx.new w1 (.float .f64 x) (.float .f64 x) 43
 generalize w1.alloc (.cells #[.float .f64 x, .float .f64 x] 43) = W1 at *
 obtain ⟨c0, c1, c2, f0, f1, f2, _⟩ := id T1
 obtain ⟨s0, s1, _, _, _⟩ := id B0
 go_wp2
 exact bodyPost_ret (v := .agg #[.float .f64 x, .float .f64 x, .float .f64 x]) (by simp [results, Tryz.results33, go_sem, c0, c1, c2]) rfl ⟨rfl, below_thr hb2 (Nat.le_refl _) _ _ _⟩
set_option maxHeartbeats 2000000 in
theorem blength_any (a b : Jn) (w : World) (hT : TabW w) :
  Calls Tryz.prog 32 #[jV a, jV b] w fun e w' => e = .returned (amV (aR (l2F a b))) ∧ Below w.heap.size w w' := by
 have hst := run_storef Tryz.prog
 have cL := fun w' hW => length_any a b w' hW
 unfold amV aR sqP
 simp only
 generalize sqB 1 (l2F a b) = lo at *
 generalize sqB 2 (l2F a b) = hi at *
 generalize sqB 0 (l2F a b) = nr at *
 obtain ⟨s, x, y, f⟩ := a
 obtain ⟨t, p, q, g⟩ := b
 unfold jV at cL ⊢
 simp only at cL ⊢
 obtain ⟨W0, eW⟩ : ∃ W0, ((w.alloc (.cells #[.string s, .int .i32 x, .int .i32 y, .int .u8 f] 40)).alloc (.cells #[.string t, .int .i32 p, .int .i32 q, .int .u8 g] 40)).alloc (.cells #[.float .f64 0, .float .f64 0, .float .f64 0] 86) = W0 := ⟨_, rfl⟩
 have hb0 : Below w.heap.size w W0 := by rw [← eW]; exact (((Below.refl _ _).alloc (Nat.le_refl _) _).alloc (by simp) _).alloc (by simp; omega) _
 have T0 : T3 W0 (w.heap.size + 1 + 1) (.float .f64 0) (.float .f64 0) (.float .f64 0) := by
  have := T3.new ((w.alloc (.cells #[.string s, .int .i32 x, .int .i32 y, .int .u8 f] 40)).alloc (.cells #[.string t, .int .i32 p, .int .i32 q, .int .u8 g] 40)) (.float .f64 0) (.float .f64 0) (.float .f64 0) 86
  rw [eW] at this
  simpa using this
 have J0 : JBox W0 w.heap.size (.string s) (.int .i32 x) (.int .i32 y) (.int .u8 f) := by
  rw [← eW]
  exact ((JBox.new w _ _ _ _ _).alloc _).alloc _
 have J1 : JBox W0 (w.heap.size + 1) (.string t) (.int .i32 p) (.int .i32 q) (.int .u8 g) := by
  have := (JBox.new (w.alloc (.cells #[.string s, .int .i32 x, .int .i32 y, .int .u8 f] 40)) (.string t) (.int .i32 p) (.int .i32 q) (.int .u8 g) 40).alloc (.cells #[.float .f64 0, .float .f64 0, .float .f64 0] 86)
  rw [eW] at this
  simpa using this
 obtain ⟨j0, j1, j2, j3, _, _, _, _, _⟩ := id J0
 obtain ⟨k0, k1, k2, k3, _, _, _, _, _⟩ := id J1
 have TW := tabW_below hT hb0
 go_enter Tryz.func32, Tryz.ntmps32
 go_upto_region 2 with (go_at_call 53; refine (cL _ TW).mono ?_; rintro e w1 ⟨rfl, b1⟩)
 have st : Below w1.heap.size w1 (w1.alloc (.cells #[.float .f64 lo, .float .f64 hi] 43)) := (Below.refl _ _).alloc (Nat.le_refl _) _
 have b2 := b1.trans (st.mono b1.size)
 have T1 := T0.below b2
 have hb2 := hb0.trans (b2.mono hb0.size)
 have B0 := Bx.new w1 (.float .f64 lo) (.float .f64 hi) 43
 generalize w1.alloc (.cells #[.float .f64 lo, .float .f64 hi] 43) = W1 at *
 obtain ⟨c0, c1, c2, f0, f1, f2, _⟩ := id T1
 obtain ⟨s0, s1, _, _, _⟩ := id B0
 go_wp2
 exact bodyPost_ret (v := .agg #[.float .f64 lo, .float .f64 hi, .float .f64 nr]) (by simp [results, Tryz.results32, go_sem, c0, c1, c2]) rfl ⟨rfl, below_thr hb2 (by omega) _ _ _⟩
def ARow (w : World) (ao : Option Addr) (bs : List Am) : Prop := bs.length = 0 ∨ ∃ b off, ao = some ⟨b, off, none⟩ ∧ ∀ k, k < bs.length →
 w.cell? ⟨b, off + k * 3, none⟩ = some (.float .f64 (bs.getD k ((0, 0), 0)).1.1) ∧ w.cell? ⟨b, off + k * 3 + 1, none⟩ = some (.float .f64 (bs.getD k ((0, 0), 0)).1.2) ∧ w.cell? ⟨b, off + k * 3 + 2, none⟩ = some (.float .f64 (bs.getD k ((0, 0), 0)).2)
theorem ARow.below {w w' : World} {ao : Option Addr} {bs : List Am} (h : ARow w ao bs) (hb : Below w.heap.size w w') : ARow w' ao bs := by
 rcases h with h | ⟨b, off, rfl, hc⟩
 ·exact Or.inl h
 ·refine Or.inr ⟨b, off, rfl, fun j hj => ?_⟩
  obtain ⟨c0, c1, c2⟩ := hc j hj
  exact ⟨by rw [hb.cell (World.block_lt_of_cell? w _ c0)]; exact c0, by rw [hb.cell (World.block_lt_of_cell? w _ c1)]; exact c1, by rw [hb.cell (World.block_lt_of_cell? w _ c2)]; exact c2⟩
theorem arow_one (w : World) (a : Am) (t : TypeId) : ARow (w.alloc (.cells #[.float .f64 a.1.1, .float .f64 a.1.2, .float .f64 a.2] t)) (some ⟨w.heap.size, 0, none⟩) [a] := by
 refine Or.inr ⟨_, 0, rfl, fun k hk => ?_⟩
 obtain rfl : k = 0 := by simp at hk; omega
 refine ⟨by simp [go_sem], by simp [go_sem], by simp [go_sem]⟩
theorem arow_two (w : World) (a b : Am) (t : TypeId) : ARow (w.alloc (.cells #[.float .f64 a.1.1, .float .f64 a.1.2, .float .f64 a.2, .float .f64 b.1.1, .float .f64 b.1.2, .float .f64 b.2] t)) (some ⟨w.heap.size, 0, none⟩) [a, b] := by
 refine Or.inr ⟨_, 0, rfl, fun k hk => ?_⟩
 rcases (show k = 0 ∨ k = 1 by simp at hk; omega) with rfl | rfl
 ·refine ⟨by simp [go_sem], by simp [go_sem], by simp [go_sem]⟩
 ·refine ⟨by simp [go_sem], by simp [go_sem], by simp [go_sem]⟩
theorem T3.put01 {w : World} {b : Nat} {x y z : Value} (h : T3 w b x y z) (p q : Value) : T3 ((w.setCell ⟨b, 0, none⟩ p).setCell ⟨b, 1, none⟩ q) b p q z := (h.set0 p).set1 q
set_option maxHeartbeats 4000000 in
theorem bproduct_any (a : Am) (bs : List Am) (cs : Nat → Am) (h0 : cs 0 = a) (hS : ∀ k, k < bs.length → C2 55 (cs k).1 (bs.getD k ((0, 0), 0)).1 (cs (k + 1)).1 0) (hN : ∀ k, k < bs.length → TB 56 (cs k).2 (bs.getD k ((0, 0), 0)).2 0 (cs (k + 1)).2)
  (ao : Option Addr) (cap : Nat) (w : World) (hr : ARow w ao bs) (hn : bs.length ≤ 1125899906842624) (hT : TabW w) :
  Calls Tryz.prog 34 #[amV a, .slice ao bs.length cap] w fun e w' => e = .returned (amV (cs bs.length)) ∧ Below w.heap.size w w' := by
 have hst := run_storef Tryz.prog
 obtain ⟨N, hN'⟩ : ∃ N, bs.length = N := ⟨_, rfl⟩
 have HN : Hid (bs.length = N) := hN'
 rw [hN'] at hn ⊢
 subst h0
 have hs1 : (w.alloc (.cells #[.float .f64 (cs 0).1.1, .float .f64 (cs 0).1.2, .float .f64 (cs 0).2] 86)).heap.size = w.heap.size + 1 := by simp
 have X0 := (T3.new w (.float .f64 (cs 0).1.1) (.float .f64 (cs 0).1.2) (.float .f64 (cs 0).2) 86).below ((Below.refl _ _).alloc (Nat.le_refl _) (.cells #[.float .f64 0, .float .f64 0, .float .f64 0] 86))
 have X1 := T3.new (w.alloc (.cells #[.float .f64 (cs 0).1.1, .float .f64 (cs 0).1.2, .float .f64 (cs 0).2] 86)) (.float .f64 0) (.float .f64 0) (.float .f64 0) 86
 rw [hs1] at X1
 have hb0 : Below w.heap.size w ((w.alloc (.cells #[.float .f64 (cs 0).1.1, .float .f64 (cs 0).1.2, .float .f64 (cs 0).2] 86)).alloc (.cells #[.float .f64 0, .float .f64 0, .float .f64 0] 86)) := ((Below.refl _ _).alloc (Nat.le_refl _) _).alloc (by rw [hs1]; omega) _
 have hz0 : w.heap.size + 2 ≤ ((w.alloc (.cells #[.float .f64 (cs 0).1.1, .float .f64 (cs 0).1.2, .float .f64 (cs 0).2] 86)).alloc (.cells #[.float .f64 0, .float .f64 0, .float .f64 0] 86)).heap.size := by simp
 clear hN' hs1
 unfold amV
 go_enter Tryz.func34, Tryz.ntmps34
 go_upto_region 1 with fail
 generalize (w.alloc (.cells #[.float .f64 (cs 0).1.1, .float .f64 (cs 0).1.2, .float .f64 (cs 0).2] 86)).alloc (.cells #[.float .f64 0, .float .f64 0, .float .f64 0] 86) = W0 at *
 go_upto_region 2 with fail
 go_loopg [6, 9] N (fun g _ v wr => ∃ k : Nat, k ≤ N ∧ g = N - k ∧ v = .int .i64 k ∧ T3 wr w.heap.size (.float .f64 (cs k).1.1) (.float .f64 (cs k).1.2) (.float .f64 (cs k).2) ∧ T3 wr (w.heap.size + 1) (.float .f64 0) (.float .f64 0) (.float .f64 0) ∧ Below w.heap.size w wr)
 case atStart => exact ⟨0, by omega, rfl, rfl, X0, X1, hb0⟩
 case round =>
  obtain ⟨k, hk, hg, rfl, A0, A1, hb⟩ := hrel
  have HG : Hid (gk = N - k) := hg
  clear hg X0 X1 hb0 hz0
  by_cases hlt : k < N
  ·rcases hr.below hb with h | ⟨b, off, rfl, hc⟩
   ·exact absurd (HN.out ▸ h) (by omega)
   ·obtain ⟨g0, g1, g2⟩ := hc k (by rw [HN.out]; exact hlt)
    have S := hS k (by rw [HN.out]; exact hlt)
    have R := hN k (by rw [HN.out]; exact hlt)
    obtain ⟨⟨⟨xl, xh⟩, xn⟩, ex⟩ : ∃ x, bs.getD k ((0, 0), 0) = x := ⟨_, rfl⟩
    rw [ex] at g0 g1 g2 S R
    obtain ⟨⟨⟨rl, rh⟩, rn⟩, er⟩ : ∃ r, cs (k + 1) = r := ⟨_, rfl⟩
    rw [er] at S R
    have HR : Hid (cs (k + 1) = ((rl, rh), rn)) := er
    obtain ⟨⟨⟨pl, ph⟩, pn⟩, ep⟩ : ∃ p, cs k = p := ⟨_, rfl⟩
    rw [ep] at S R A0
    clear er ep ex hc hS hN hr
    simp only at S R A0 g0 g1 g2
    have i1 : (k : Int) < (N : Int) := by omega
    have T2 := T3.new wr (.float .f64 xl) (.float .f64 xh) (.float .f64 xn) 86
    have st : Below wr.heap.size wr (wr.alloc (.cells #[.float .f64 xl, .float .f64 xh, .float .f64 xn] 86)) := (Below.refl _ _).alloc (Nat.le_refl _) _
    go_upto_region 4 with fail
    have l0 := A0.lt
    have l1 := A1.lt
    replace A0 := A0.below st
    replace A1 := A1.below st
    replace hb := hb.trans (st.mono hb.size)
    generalize wr.alloc (.cells #[.float .f64 xl, .float .f64 xh, .float .f64 xn] 86) = W1 at *
    obtain ⟨c0, c1, c2, f0, f1, f2, _⟩ := id A0
    obtain ⟨s0, s1, s2, _, _, _, _⟩ := id T2
    have Tr := tabW_below hT hb
    clear g0 g1 g2 st
    go_upto_region 5 with (go_at_call 55; refine (S _ Tr).mono ?_; rintro e w2 ⟨rfl, b2⟩; obtain ⟨d0, d1, d2, z0, z1, z2, _⟩ := A0.below b2)
    have B0 := (A0.below b2).put01 (.float .f64 rl) (.float .f64 rh)
    have B1 := ((A1.below b2).far (g := w.heap.size) (i := 0) (by omega) (.float .f64 rl)).far (g := w.heap.size) (i := 1) (by omega) (.float .f64 rh)
    have B2 := ((T2.below b2).far (g := w.heap.size) (i := 0) (by omega) (.float .f64 rl)).far (g := w.heap.size) (i := 1) (by omega) (.float .f64 rh)
    have hb2 := below_two (hb.trans (b2.mono hb.size)) (Nat.le_refl w.heap.size) (.float .f64 rl) (.float .f64 rh)
    clear c0 c1 c2 f0 f1 f2 s0 s1 s2 d0 d1 d2 z0 z1 z2 A0 A1 T2 b2 hb Tr
    generalize (w2.setCell ⟨w.heap.size, 0, none⟩ (.float .f64 rl)).setCell ⟨w.heap.size, 1, none⟩ (.float .f64 rh) = Wb at *
    obtain ⟨c0, c1, c2, f0, f1, f2, _⟩ := id B0
    obtain ⟨s0, s1, s2, _, _, _, _⟩ := id B2
    have Tr := tabW_below hT hb2
    go_upto_region 6 with (go_at_call 56; refine (R _ Tr).mono ?_; rintro e w3 ⟨rfl, b3⟩; obtain ⟨d0, d1, d2, z0, z1, z2, _⟩ := B0.below b3)
    have D0 := (B0.below b3).set2 (.float .f64 rn)
    have D1 := (B1.below b3).far (g := w.heap.size) (i := 2) (by omega) (.float .f64 rn)
    have hb3 : Below w.heap.size w (w3.setCell ⟨w.heap.size, 2, none⟩ (.float .f64 rn)) := (hb2.trans (b3.mono hb2.size)).setCell (p := ⟨w.heap.size, 2, none⟩) (Nat.le_refl _) _
    clear c0 c1 c2 f0 f1 f2 s0 s1 s2 d0 d1 d2 z0 z1 z2 B0 B1 B2 b3 hb2 Tr
    generalize w3.setCell ⟨w.heap.size, 2, none⟩ (.float .f64 rn) = W3 at *
    go_wp2
    go_roundg (N - (k + 1))
    case measure => rw [HG.out]; omega
    case rel => exact ⟨k + 1, by omega, rfl, by go_num, by rw [HR.out]; exact D0, D1, hb3⟩
  ·have e : k = N := by omega
   subst e
   have i1 : ¬ (k : Int) < (k : Int) := by omega
   obtain ⟨c0, c1, c2, _, _, _, _⟩ := id A0
   obtain ⟨s0, s1, s2, f0, f1, f2, _⟩ := id A1
   clear hS hN
   go_wp2
   exact bodyPost_ret (v := .agg #[.float .f64 (cs k).1.1, .float .f64 (cs k).1.2, .float .f64 (cs k).2]) (by simp [results, Tryz.results34, go_sem, s0, s1, s2]) rfl ⟨rfl, below_thr hb (by omega) _ _ _⟩
set_option maxHeartbeats 4000000 in
theorem bquotient_any (a b r : Am) (hS : C2 57 a.1 b.1 r.1 0) (hN : TB 58 a.2 b.2 0 r.2) (w : World) (hT : TabW w) :
  Calls Tryz.prog 36 #[amV a, amV b] w fun e w' => e = .returned (amV r) ∧ Below w.heap.size w w' := by
 have hst := run_storef Tryz.prog
 obtain ⟨⟨al, ah⟩, an⟩ := a
 obtain ⟨⟨bl, bh⟩, bn⟩ := b
 obtain ⟨⟨rl, rh⟩, rn⟩ := r
 simp only at hS hN
 unfold amV
 simp only
 obtain ⟨W0, eW⟩ : ∃ W0, ((w.alloc (.cells #[.float .f64 al, .float .f64 ah, .float .f64 an] 86)).alloc (.cells #[.float .f64 bl, .float .f64 bh, .float .f64 bn] 86)).alloc (.cells #[.float .f64 0, .float .f64 0, .float .f64 0] 86) = W0 := ⟨_, rfl⟩
 have hb0 : Below w.heap.size w W0 := by rw [← eW]; exact (((Below.refl _ _).alloc (Nat.le_refl _) _).alloc (by simp) _).alloc (by simp; omega) _
 have X0 : T3 W0 w.heap.size (.float .f64 al) (.float .f64 ah) (.float .f64 an) := by
  rw [← eW]
  exact ((T3.new w _ _ _ _).below ((Below.refl _ _).alloc (Nat.le_refl _) _)).below ((Below.refl _ _).alloc (Nat.le_refl _) _)
 have X1 : T3 W0 (w.heap.size + 1) (.float .f64 bl) (.float .f64 bh) (.float .f64 bn) := by
  have := (T3.new (w.alloc (.cells #[.float .f64 al, .float .f64 ah, .float .f64 an] 86)) (.float .f64 bl) (.float .f64 bh) (.float .f64 bn) 86).below ((Below.refl _ _).alloc (Nat.le_refl _) (.cells #[.float .f64 0, .float .f64 0, .float .f64 0] 86))
  rw [eW] at this
  simpa using this
 have X2 : T3 W0 (w.heap.size + 1 + 1) (.float .f64 0) (.float .f64 0) (.float .f64 0) := by
  have := T3.new ((w.alloc (.cells #[.float .f64 al, .float .f64 ah, .float .f64 an] 86)).alloc (.cells #[.float .f64 bl, .float .f64 bh, .float .f64 bn] 86)) (.float .f64 0) (.float .f64 0) (.float .f64 0) 86
  rw [eW] at this
  simpa using this
 have TW := tabW_below hT hb0
 go_enter Tryz.func36, Tryz.ntmps36
 go_upto_region 1 with fail
 clear eW
 obtain ⟨x0, x1, x2, _, _, _, _⟩ := id X0
 obtain ⟨y0, y1, y2, _, _, _, _⟩ := id X1
 go_upto_region 2 with (go_at_call 57; refine (hS _ TW).mono ?_; rintro e w1 ⟨rfl, b1⟩)
 have st : Below w1.heap.size w1 (w1.alloc (.cells #[.float .f64 rl, .float .f64 rh] 43)) := (Below.refl _ _).alloc (Nat.le_refl _) _
 have b2 := b1.trans (st.mono b1.size)
 replace X0 := X0.below b2
 replace X1 := X1.below b2
 replace X2 := X2.below b2
 have hb2 := hb0.trans (b2.mono hb0.size)
 have B0 := Bx.new w1 (.float .f64 rl) (.float .f64 rh) 43
 have T1 := tabW_below hT hb2
 clear x0 x1 x2 y0 y1 y2 b2 st b1 hb0 TW
 generalize w1.alloc (.cells #[.float .f64 rl, .float .f64 rh] 43) = W at *
 generalize w1.heap.size = P at *
 have TD := tabW_below T1 (Below.refl W.heap.size W).drew
 obtain ⟨x0, x1, x2, _, _, _, _⟩ := id X0
 obtain ⟨y0, y1, y2, _, _, _, _⟩ := id X1
 obtain ⟨z0, z1, z2, f0, f1, f2, _⟩ := id X2
 obtain ⟨s0, s1, _, _, _⟩ := id B0
 go_region_with (go_at_call 58; refine (hN _ TD).mono ?_; rintro e w3 ⟨rfl, b3⟩; have b4 := (Below.refl W.heap.size W).drew.trans b3; have R3 := X2.below b4; have S3 := B0.below b4; obtain ⟨u0, u1, u2, u3, u4, u5, _⟩ := id R3; obtain ⟨v0, v1, _, _, _⟩ := id S3)
 all_goals
  have hb3 := hb2.trans (b4.mono hb2.size)
  go_wp2
  exact bodyPost_ret (v := .agg #[.float .f64 rl, .float .f64 rh, .float .f64 rn]) (by simp [results, Tryz.results36, go_sem, u0, u1, u2]) rfl ⟨rfl, below_thr hb3 (by omega) _ _ _⟩
structure SAt (w : World) (b off : Nat) (s : Sg) : Prop where
 c0 : w.cell? ⟨b, off, none⟩ = some (.int .i64 s.m)
 c1 : w.cell? ⟨b, off + 1, none⟩ = some (.int .u8 s.k)
 c2 : w.cell? ⟨b, off + 2, none⟩ = some (.int .i64 s.r.r0)
 c3 : w.cell? ⟨b, off + 3, none⟩ = some (.int .i64 s.r.r1)
 c4 : w.cell? ⟨b, off + 4, none⟩ = some (.int .i64 s.r.r2)
 c5 : w.cell? ⟨b, off + 5, none⟩ = some (.int .i64 s.r.r3)
 c6 : w.cell? ⟨b, off + 6, none⟩ = some (.int .i64 s.r.r4)
 c7 : w.cell? ⟨b, off + 7, none⟩ = some (.int .i64 s.r.r5)
 c8 : w.cell? ⟨b, off + 8, none⟩ = some (.float .f64 s.a.1.1)
 c9 : w.cell? ⟨b, off + 9, none⟩ = some (.float .f64 s.a.1.2)
 c10 : w.cell? ⟨b, off + 10, none⟩ = some (.float .f64 s.a.2)
theorem SAt.lt {w : World} {b off : Nat} {s : Sg} (h : SAt w b off s) : b < w.heap.size := World.block_lt_of_cell? w _ h.c0
theorem SAt.below {w w' : World} {b off : Nat} {s : Sg} (h : SAt w b off s) (hb : Below w.heap.size w w') : SAt w' b off s := by
 have l := h.lt
 exact ⟨by rw [hb.cell l]; exact h.c0, by rw [hb.cell l]; exact h.c1, by rw [hb.cell l]; exact h.c2, by rw [hb.cell l]; exact h.c3, by rw [hb.cell l]; exact h.c4, by rw [hb.cell l]; exact h.c5, by rw [hb.cell l]; exact h.c6, by rw [hb.cell l]; exact h.c7, by rw [hb.cell l]; exact h.c8, by rw [hb.cell l]; exact h.c9, by rw [hb.cell l]; exact h.c10⟩
def SgRow (w : World) (ao : Option Addr) (l : List Sg) : Prop := l.length = 0 ∨ ∃ b off, ao = some ⟨b, off, none⟩ ∧ ∀ k, k < l.length → SAt w b (off + k * 11) (l.getD k sgz)
theorem SgRow.below {w w' : World} {ao : Option Addr} {l : List Sg} (h : SgRow w ao l) (hb : Below w.heap.size w w') : SgRow w' ao l := by
 rcases h with h | ⟨b, off, rfl, hc⟩
 ·exact Or.inl h
 ·exact Or.inr ⟨b, off, rfl, fun j hj => (hc j hj).below hb⟩
abbrev sgC (s : Sg) : List Value := [.int .i64 s.m, .int .u8 s.k, .int .i64 s.r.r0, .int .i64 s.r.r1, .int .i64 s.r.r2, .int .i64 s.r.r3, .int .i64 s.r.r4, .int .i64 s.r.r5, .float .f64 s.a.1.1, .float .f64 s.a.1.2, .float .f64 s.a.2]
abbrev sgO (s : Sg) (t : TypeId) : Obj := .cells #[.int .i64 s.m, .int .u8 s.k, .int .i64 s.r.r0, .int .i64 s.r.r1, .int .i64 s.r.r2, .int .i64 s.r.r3, .int .i64 s.r.r4, .int .i64 s.r.r5, .float .f64 s.a.1.1, .float .f64 s.a.1.2, .float .f64 s.a.2] t
theorem sat_new (w : World) (s : Sg) (t : TypeId) : SAt (w.alloc (sgO s t)) w.heap.size 0 s := ⟨by go_simp, by go_simp, by go_simp, by go_simp, by go_simp, by go_simp, by go_simp, by go_simp, by go_simp, by go_simp, by go_simp⟩
structure SBox (w : World) (b : Nat) (s : Sg) : Prop where
 at0 : SAt w b 0 s
 f : ∀ i, i < 11 → w.frozen? ⟨b, i, none⟩ = false
 lt : b < w.heap.size
theorem SBox.new (w : World) (s : Sg) (t : TypeId) : SBox (w.alloc (sgO s t)) w.heap.size s := ⟨sat_new w s t, fun i hi => by go_simp, by simp⟩
theorem SBox.below {w w' : World} {b : Nat} {s : Sg} (h : SBox w b s) (hb : Below w.heap.size w w') : SBox w' b s :=
 ⟨h.at0.below hb, fun i hi => (hb.frozen (p := ⟨b, i, none⟩) h.lt).trans (h.f i hi), Nat.lt_of_lt_of_le h.lt hb.size⟩
set_option maxHeartbeats 4000000 in
theorem bspring_any (k : Nat) (r : R6) (a : Am) (w : World) :
  Calls Tryz.prog 35 #[.int .u8 k, r6V r, amV a] w fun e w' => e = .returned (sgV ⟨0, k, r, a⟩) ∧ Below w.heap.size w w' := by
 have hst := run_storef Tryz.prog
 obtain ⟨⟨al, ah⟩, an⟩ := a
 obtain ⟨r0, r1, r2, r3, r4, r5⟩ := r
 unfold amV r6V sgV
 simp only
 obtain ⟨W0, eW⟩ : ∃ W0, (w.alloc (.cells #[.int .i64 r0, .int .i64 r1, .int .i64 r2, .int .i64 r3, .int .i64 r4, .int .i64 r5] 41)).alloc (.cells #[.float .f64 al, .float .f64 ah, .float .f64 an] 86) = W0 := ⟨_, rfl⟩
 have hb0 : Below w.heap.size w (W0.alloc (sgO sgz 45)) := by rw [← eW]; exact (((Below.refl _ _).alloc (Nat.le_refl _) _).alloc (by simp) _).alloc (by simp; omega) _
 go_enter Tryz.func35, Tryz.ntmps35
 go_upto_region 1 with fail
 have hle : w.heap.size ≤ W0.heap.size := by rw [← eW]; simp; omega
 have T0 : T3 (W0.alloc (sgO sgz 45)) (w.heap.size + 1) (.float .f64 al) (.float .f64 ah) (.float .f64 an) := by
  have := (T3.new (w.alloc (.cells #[.int .i64 r0, .int .i64 r1, .int .i64 r2, .int .i64 r3, .int .i64 r4, .int .i64 r5] 41)) (.float .f64 al) (.float .f64 ah) (.float .f64 an) 86)
  rw [eW] at this
  have := this.below ((Below.refl _ _).alloc (Nat.le_refl _) (sgO sgz 45))
  simpa using this
 have q0 : (W0.alloc (sgO sgz 45)).cell? ⟨w.heap.size, 0, none⟩ = some (.int .i64 r0) := by rw [← eW]; simp [go_sem]
 have q1 : (W0.alloc (sgO sgz 45)).cell? ⟨w.heap.size, 1, none⟩ = some (.int .i64 r1) := by rw [← eW]; simp [go_sem]
 have q2 : (W0.alloc (sgO sgz 45)).cell? ⟨w.heap.size, 2, none⟩ = some (.int .i64 r2) := by rw [← eW]; simp [go_sem]
 have q3 : (W0.alloc (sgO sgz 45)).cell? ⟨w.heap.size, 3, none⟩ = some (.int .i64 r3) := by rw [← eW]; simp [go_sem]
 have q4 : (W0.alloc (sgO sgz 45)).cell? ⟨w.heap.size, 4, none⟩ = some (.int .i64 r4) := by rw [← eW]; simp [go_sem]
 have q5 : (W0.alloc (sgO sgz 45)).cell? ⟨w.heap.size, 5, none⟩ = some (.int .i64 r5) := by rw [← eW]; simp [go_sem]
 have SB := SBox.new W0 sgz 45
 clear eW
 unfold sgO sgz at *
 simp only at *
 generalize W0.alloc (.cells #[.int .i64 0, .int .u8 0, .int .i64 0, .int .i64 0, .int .i64 0, .int .i64 0, .int .i64 0, .int .i64 0, .float .f64 0, .float .f64 0, .float .f64 0] 45) = W1 at *
 obtain ⟨t0, t1, t2, _, _, _, _⟩ := id T0
 obtain ⟨⟨c0, c1, c2, c3, c4, c5, c6, c7, c8, c9, c10⟩, hf, _⟩ := id SB
 simp only [Nat.zero_add] at c0 c1 c2 c3 c4 c5 c6 c7 c8 c9 c10
 have f0 := hf 0 (by decide)
 have f1 := hf 1 (by decide)
 have f2 := hf 2 (by decide)
 have f3 := hf 3 (by decide)
 have f4 := hf 4 (by decide)
 have f5 := hf 5 (by decide)
 have f6 := hf 6 (by decide)
 have f7 := hf 7 (by decide)
 have f8 := hf 8 (by decide)
 have f9 := hf 9 (by decide)
 have f10 := hf 10 (by decide)
 clear hf SB T0
 go_wp2
 exact bodyPost_ret (v := .agg #[.int .i64 0, .int .u8 k, .int .i64 r0, .int .i64 r1, .int .i64 r2, .int .i64 r3, .int .i64 r4, .int .i64 r5, .float .f64 al, .float .f64 ah, .float .f64 an]) (by simp [results, Tryz.results35, go_sem, c0, c1, c2, c3, c4, c5, c6, c7, c8, c9, c10]) rfl ⟨rfl, (Below.setCell (Below.setCell (Below.setCell (Below.setCell (Below.setCell (Below.setCell (Below.setCell (Below.setCell (Below.setCell (Below.setCell (Below.setCell hb0 (p := ⟨W0.heap.size, 0, none⟩) hle _) (p := ⟨W0.heap.size, 1, none⟩) hle _) (p := ⟨W0.heap.size, 2, none⟩) hle _) (p := ⟨W0.heap.size, 3, none⟩) hle _) (p := ⟨W0.heap.size, 4, none⟩) hle _) (p := ⟨W0.heap.size, 5, none⟩) hle _) (p := ⟨W0.heap.size, 6, none⟩) hle _) (p := ⟨W0.heap.size, 7, none⟩) hle _) (p := ⟨W0.heap.size, 8, none⟩) hle _) (p := ⟨W0.heap.size, 9, none⟩) hle _) (p := ⟨W0.heap.size, 10, none⟩) hle _)⟩
end Go.Proofs.YtfipmopmpacdaaaGreatDoor
