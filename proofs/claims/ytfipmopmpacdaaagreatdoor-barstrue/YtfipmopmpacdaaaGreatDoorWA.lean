/- What is told of spans within spans: right, and within: plain, no program in this text. -/
import Derived.Test.YtfipmopmpacdaaaGreatDoorZj
import Derived.Test.YtfipmopmpacdaaaGreatDoorZg
import Derived.Test.YtfipmopmpacdaaaGreatDoorX8
import Derived.Test.YtfipmopmpacdaaaGreatDoorZK
import Derived.Test.YtfipmopmpacdaaaGreatDoorZQ
import Derived.Deep.LoopGhost
namespace Go.Proofs.YtfipmopmpacdaaaGreatDoor
open Go.RowKit
theorem lsF_two (a b : Nat) : lsF a b = a ∨ lsF a b = b := by unfold lsF; split; exact Or.inr rfl; exact Or.inl rfl
theorem grF_two (a b : Nat) : grF a b = a ∨ grF a b = b := by unfold grF; split; exact Or.inr rfl; exact Or.inl rfl
theorem key_place {a b : Nat} (na : nanB a = false) (nb : nanB b = false) (h : key a ≤ key b) : place a ≤ place b := by
 unfold key at h
 rw [na, nb] at h
 cases sgn a <;> cases sgn b <;> simp at h <;> omega
theorem lsF_place {a b : Nat} (na : nanB a = false) (nb : nanB b = false) : place (lsF a b) ≤ place a ∧ place (lsF a b) ≤ place b ∧ nanB (lsF a b) = false := by
 unfold lsF
 rw [ordF_key]
 by_cases h : key b < key a
 ·rw [if_pos h, if_pos (by omega)]
  exact ⟨key_place nb na (by omega), Int.le_refl _, nb⟩
 ·have h2 := key_place na nb (by omega)
  rw [if_neg h]
  by_cases g : key a < key b
  ·rw [if_pos g, if_neg (by omega)]; exact ⟨Int.le_refl _, h2, na⟩
  ·rw [if_neg g, if_neg (by omega)]; exact ⟨Int.le_refl _, h2, na⟩
theorem grF_place {a b : Nat} (na : nanB a = false) (nb : nanB b = false) : place a ≤ place (grF a b) ∧ place b ≤ place (grF a b) ∧ nanB (grF a b) = false := by
 unfold grF
 rw [ordF_key]
 by_cases h : key b < key a
 ·rw [if_pos h, if_neg (by omega)]
  exact ⟨Int.le_refl _, key_place nb na (by omega), na⟩
 ·have h2 := key_place na nb (by omega)
  rw [if_neg h]
  by_cases g : key a < key b
  ·rw [if_pos g, if_pos (by omega)]; exact ⟨h2, Int.le_refl _, nb⟩
  ·rw [if_neg g, if_neg (by omega)]
   have h3 := key_place nb na (by omega)
   exact ⟨Int.le_refl _, h3, na⟩
theorem sRt_place {l h : Nat} (hl : l < 18446744073709551616) (hh : h < 18446744073709551616) (nl : nanB l = false) (nh : nanB h = false) : sRt l h = (decide (place l ≤ place h) && decide (place l ≤ 9218868437227405311) && decide (-9218868437227405311 ≤ place h)) := by
 unfold sRt
 rw [leF_num hl hh nl nh, leF_num hl (by omega) nl (by decide), geF_num hh (by omega) nh (by decide), show place 9218868437227405311 = 9218868437227405311 by decide, show place 18442240474082181119 = -9218868437227405311 by decide]
theorem rt_place {l h : Nat} (hl : l < 18446744073709551616) (hh : h < 18446744073709551616) (r : sRt l h = true) : nanB l = false ∧ nanB h = false ∧ place l ≤ place h ∧ place l ≤ 9218868437227405311 ∧ -9218868437227405311 ≤ place h := by
 have nl : nanB l = false := by
  cases n : nanB l
  ·rfl
  ·rw [sRt_nan hl hh (Or.inl n)] at r; cases r
 have nh : nanB h = false := by
  cases n : nanB h
  ·rfl
  ·rw [sRt_nan hl hh (Or.inr n)] at r; cases r
 rw [sRt_place hl hh nl nh] at r
 simp at r
 exact ⟨nl, nh, r.1.1, r.1.2, r.2⟩
theorem mulB_O (m : Int) (x y : Nat) : mulB m x y = (mulO x y m).getD 0 := by unfold mulB mulO; split <;> rfl
theorem mulO_some {x y : Nat} (m : Int) (h : (floatBits .mul .f64 x y).isSome = true) : mulO x y m = some (mulB m x y) := by
 unfold mulB mulO
 obtain ⟨v, hv⟩ := Option.isSome_iff_exists.1 h
 split
 ·rfl
 ·rw [hv]; rfl
theorem told_ends {s : Bool} {A : Nat} {G : Nat → Nat} {f : Int → Nat} (h : Told s A G f) : place (f 1) ≤ 9218868437227405311 ∧ -9218868437227405311 ≤ place (f 2) := by
 obtain ⟨k, r, ⟨hk, h0, h1, h2⟩, hf⟩ := h
 have t1 : tmd 1 = 2 := rfl
 have t2 : tmd 2 = 1 := rfl
 have c : ∀ m, rgS k r m ≤ 9218868437227405312 := by
  intro m
  unfold rgS
  split
  ·omega
  ·split
   ·rename_i g; have := (h1 g.2).1; omega
   ·exact hk
 have d : rgS k r 1 ≤ 9218868437227405311 := by
  unfold rgS
  rcases Int.lt_trichotomy r 0 with g | g | g
  ·rw [if_pos ⟨Or.inl rfl, g⟩]; omega
  ·rw [if_neg (by omega), if_neg (by omega)]; have := (h0 g).1; omega
  ·rw [if_neg (by omega), if_neg (by omega)]; have := (h1 g).1; omega
 rw [hf 1, hf 2]
 cases s
 ·simp only [Bool.false_eq_true, if_false]
  rw [place_word _ (c 1), place_word _ (c 2)]
  simp only [tnS, Bool.false_eq_true, if_false]
  omega
 ·simp only [if_true, t1, t2]
  rw [place_word _ (c 1), place_word _ (c 2)]
  simp only [tnS, if_true]
  omega
theorem rt_fn {l h : Nat} (hl : l < 18446744073709551616) (hh : h < 18446744073709551616) (r : sRt l h = true) : Fn l ∧ Fn h := by
 obtain ⟨nl, nh, _⟩ := rt_place hl hh r
 exact ⟨⟨hl, nl⟩, ⟨hh, nh⟩⟩
theorem lo_inf {l : Nat} (h : Fn l) (p : place l ≤ 9218868437227405311) (f : finB l = false) : sgn l = true ∧ place l = -9218868437227405312 := by
 have := pl_inf h f
 cases s : sgn l <;> rw [s] at this <;> simp only [tnS, if_true, Bool.false_eq_true, if_false] at this
 ·omega
 ·exact ⟨rfl, this⟩
theorem hi_inf {l : Nat} (h : Fn l) (p : -9218868437227405311 ≤ place l) (f : finB l = false) : sgn l = false ∧ place l = 9218868437227405312 := by
 have := pl_inf h f
 cases s : sgn l <;> rw [s] at this <;> simp only [tnS, if_true, Bool.false_eq_true, if_false] at this
 ·exact ⟨rfl, this⟩
 ·omega
theorem sRt_mk {l h : Nat} (fl : Fn l) (fh : Fn h) (p1 : place l ≤ place h) (p2 : place l ≤ 9218868437227405311) (p3 : -9218868437227405311 ≤ place h) : sRt l h = true := by
 rw [sRt_place fl.1 fh.1 fl.2 fh.2]
 simp [p1, p2, p3]
theorem tB_ways {x y : Nat} (hx : Fn x) (hy : Fn y) : Fn (tB 1 x y) ∧ Fn (tB 2 x y) ∧ place (tB 1 x y) ≤ place (tB 2 x y) := by
 unfold tB
 cases h : ((rung x == 0 && !finB y) || (rung y == 0 && !finB x))
 ·simp only [Bool.false_eq_true, if_false]
  have o := mulS_ok hx.1 hy.1 hx.2 hy.2 h
  have e1 : dO 2 x y 0 1 = some (mulB 1 x y) := mulO_some 1 o
  have e2 : dO 2 x y 0 2 = some (mulB 2 x y) := mulO_some 2 o
  rcases ways_2 (a := x) (b := y) 0 hx hy with g | ⟨d, n, u, z, g1, g2, g3, g4, r1, r2, r3, r4, r5, r6, _⟩
  ·rw [g 1] at e1; cases e1
  ·rw [e1] at g1; rw [e2] at g3
   cases g1; cases g3
   exact ⟨r1, r3, by omega⟩
 ·simp only [if_true]
  exact ⟨⟨by omega, rfl⟩, ⟨by omega, rfl⟩, Int.le_refl _⟩
theorem mul_zero_place {x y v : Nat} (hx : Fn x) (hy : Fn y) (fx : finB x = true) (fy : finB y = true) (s : (someB x && someB y) = false) (e : floatBits .mul .f64 x y = some v) : place v = 0 := by
 rw [(fbits_map x y).2.2.1, read_fin hx.1 fx, read_fin hy.1 fy] at e
 have m0 : mg (rung x) * mg (rung y) = 0 := by
  have z : rung x = 0 ∨ rung y = 0 := by
   unfold someB at s
   rw [fx, fy] at s
   simp at s
   omega
  rcases z with z | z
  ·rw [mg_nil.2 z, Nat.zero_mul]
  ·rw [mg_nil.2 z, Nat.mul_zero]
 simp only [Ieee.Datum.product, m0, Option.map_some] at e
 have e2 := Option.some.inj e
 rw [← e2]
 exact zero_place (word_rung _ (show 0 < 9223372036854775808 by omega)).1
theorem mul_ends {x y : Nat} (hx : Fn x) (hy : Fn y) (fx : finB x = true) (fy : finB y = true) : place (tB 1 x y) ≤ 9218868437227405311 ∧ -9218868437227405311 ≤ place (tB 2 x y) := by
 have e : ∀ m, tB m x y = mulB m x y := fun m => by unfold tB; rw [fx, fy]; simp
 rw [e, e]
 cases s : (someB x && someB y)
 ·have o := mulS_ok hx.1 hy.1 hx.2 hy.2 (by rw [fx, fy]; simp)
  obtain ⟨v, hv⟩ := Option.isSome_iff_exists.1 o
  have g : ∀ m, mulB m x y = v := fun m => by unfold mulB; rw [s, hv]; rfl
  rw [g, g, mul_zero_place hx hy fx fy s hv]
  omega
 ·have sx : someB x = true := by revert s; cases someB x <;> simp
  have sy : someB y = true := by revert s; cases someB x <;> simp
  have g : ∀ m, mulB m x y = fuV (vI x * vI y) m := fun m => by unfold mulB; rw [s]; exact mul_fu m hx.1 hy.1 sx sy
  rw [g, g]
  have rx := (vI_sign (show rung x ≠ 0 by simpa using (some_rung sx).2)).1
  have ry := (vI_sign (show rung y ≠ 0 by simpa using (some_rung sy).2)).1
  exact told_ends (fu_told (Int.mul_ne_zero rx ry))
theorem mul_inf {x y : Nat} (m : Int) (hx : Fn x) (hy : Fn y) (fx : finB x = false) : (rung y = 0 ∧ tB m x y = 0) ∨ place (tB m x y) = tnS (sgn x ^^ sgn y) 9218868437227405312 := by
 have rx : rung x ≠ 0 := by rw [(fn_inf hx fx).2.2]; omega
 by_cases y0 : rung y = 0
 ·left
  refine ⟨y0, ?_⟩
  unfold tB; rw [y0, fx]; simp
 ·right
  have hT : tB m x y = mulB m x y := by unfold tB; simp [rx, y0]
  have hM : mulB m x y = (floatBits .mul .f64 x y).getD 0 := by unfold mulB someB; rw [fx]; rfl
  have my : mg (rung y) ≠ 0 := by rw [Ne, mg_nil]; exact y0
  rw [hT, hM, (fbits_map x y).2.2.1, (fn_inf hx fx).1, read_nn hy.1 hy.2]
  have hw : ∀ s, place (Ieee.double.write (.infinity s)) = tnS s 9218868437227405312 := fun s => place_word s (Nat.le_refl _)
  cases fy : finB y <;> simp only [Bool.false_eq_true, if_false, if_true, Ieee.Datum.product, Option.map_some, Option.getD_some]
  ·exact hw _
  ·rw [if_neg my]; exact hw _
theorem tB_comm {x y : Nat} (m : Int) (hx : x < 18446744073709551616) (hy : y < 18446744073709551616) : tB m y x = tB m x y := by
 unfold tB
 rw [mulB_O, mulB_O, mulO_comm m hx hy]
 congr 1
 rw [Bool.or_comm]
theorem lsF_fn {a b : Nat} (ha : Fn a) (hb : Fn b) : Fn (lsF a b) ∧ place (lsF a b) ≤ place a ∧ place (lsF a b) ≤ place b := by
 obtain ⟨h1, h2, h3⟩ := lsF_place ha.2 hb.2
 exact ⟨⟨lsF_lt ha.1 hb.1, h3⟩, h1, h2⟩
theorem grF_fn {a b : Nat} (ha : Fn a) (hb : Fn b) : Fn (grF a b) ∧ place a ≤ place (grF a b) ∧ place b ≤ place (grF a b) := by
 obtain ⟨h1, h2, h3⟩ := grF_place ha.2 hb.2
 exact ⟨⟨grF_lt ha.1 hb.1, h3⟩, h1, h2⟩
theorem lsC_fn {R : Int → Nat → Nat → Nat} {a b c d : Nat} (h1 : Fn (R 1 a c)) (h2 : Fn (R 1 a d)) (h3 : Fn (R 1 b c)) (h4 : Fn (R 1 b d)) :
  Fn (lsC R a b c d) ∧ place (lsC R a b c d) ≤ place (R 1 a c) ∧ place (lsC R a b c d) ≤ place (R 1 a d) ∧ place (lsC R a b c d) ≤ place (R 1 b c) ∧ place (lsC R a b c d) ≤ place (R 1 b d) := by
 obtain ⟨f1, p1, p2⟩ := lsF_fn h1 h2
 obtain ⟨f2, p3, p4⟩ := lsF_fn f1 h3
 obtain ⟨f3, p5, p6⟩ := lsF_fn f2 h4
 unfold lsC
 exact ⟨f3, by omega, by omega, by omega, by omega⟩
theorem grC_fn {R : Int → Nat → Nat → Nat} {a b c d : Nat} (h1 : Fn (R 2 a c)) (h2 : Fn (R 2 a d)) (h3 : Fn (R 2 b c)) (h4 : Fn (R 2 b d)) :
  Fn (grC R a b c d) ∧ place (R 2 a c) ≤ place (grC R a b c d) ∧ place (R 2 a d) ≤ place (grC R a b c d) ∧ place (R 2 b c) ≤ place (grC R a b c d) ∧ place (R 2 b d) ≤ place (grC R a b c d) := by
 obtain ⟨f1, p1, p2⟩ := grF_fn h1 h2
 obtain ⟨f2, p3, p4⟩ := grF_fn f1 h3
 obtain ⟨f3, p5, p6⟩ := grF_fn f2 h4
 unfold grC
 exact ⟨f3, by omega, by omega, by omega, by omega⟩
theorem mul_inf2 {x z y : Nat} (hx : Fn x) (hz : Fn z) (hy : Fn y) (fx : finB x = false) (fz : finB z = false) (s1 : sgn x = true) (s2 : sgn z = false) :
  (place (tB 1 x y) ≤ 0 ∨ place (tB 1 z y) ≤ 0) ∧ (0 ≤ place (tB 2 x y) ∨ 0 ≤ place (tB 2 z y)) := by
 have p0 : place 0 = 0 := rfl
 constructor
 ·rcases mul_inf 1 hx hy fx with ⟨_, e⟩ | e
  ·rw [e]; omega
  ·rcases mul_inf 1 hz hy fz with ⟨_, e2⟩ | e2
   ·rw [e2]; omega
   ·rw [e, e2, s1, s2]; cases sgn y <;> simp [tnS]
 ·rcases mul_inf 2 hx hy fx with ⟨_, e⟩ | e
  ·rw [e]; omega
  ·rcases mul_inf 2 hz hy fz with ⟨_, e2⟩ | e2
   ·rw [e2]; omega
   ·rw [e, e2, s1, s2]; cases sgn y <;> simp [tnS]
theorem mul_right {a b c d : Nat} (ha : a < 18446744073709551616) (hb : b < 18446744073709551616) (hc : c < 18446744073709551616) (hd : d < 18446744073709551616) (ra : sRt a b = true) (rb : sRt c d = true) :
  sRt (lsC tB a b c d) (grC tB a b c d) = true := by
 obtain ⟨na, nb, p1, p2, p3⟩ := rt_place ha hb ra
 obtain ⟨nc, nd, q1, q2, q3⟩ := rt_place hc hd rb
 have Fa : Fn a := ⟨ha, na⟩
 have Fb : Fn b := ⟨hb, nb⟩
 have Fc : Fn c := ⟨hc, nc⟩
 have Fd : Fn d := ⟨hd, nd⟩
 obtain ⟨x1, y1, z1⟩ := tB_ways Fa Fc
 obtain ⟨x2, y2, z2⟩ := tB_ways Fa Fd
 obtain ⟨x3, y3, z3⟩ := tB_ways Fb Fc
 obtain ⟨x4, y4, z4⟩ := tB_ways Fb Fd
 obtain ⟨u1, u2, u3, u4, u5⟩ := lsC_fn x1 x2 x3 x4
 obtain ⟨v1, v2, v3, v4, v5⟩ := grC_fn y1 y2 y3 y4
 have key : place (lsC tB a b c d) ≤ 9218868437227405311 ∧ -9218868437227405311 ≤ place (grC tB a b c d) := by
  cases fa : finB a <;> cases fb : finB b
  ·have h := mul_inf2 Fa Fb Fc fa fb (lo_inf Fa p2 fa).1 (hi_inf Fb p3 fb).1
   omega
  ·cases fc : finB c <;> cases fd : finB d
   ·have h := mul_inf2 Fc Fd Fb fc fd (lo_inf Fc q2 fc).1 (hi_inf Fd q3 fd).1
    rw [tB_comm 1 hb hc, tB_comm 2 hb hc, tB_comm 1 hb hd, tB_comm 2 hb hd] at h
    omega
   ·have h := mul_ends Fb Fd fb fd; omega
   ·have h := mul_ends Fb Fc fb fc; omega
   ·have h := mul_ends Fb Fc fb fc; omega
  ·cases fc : finB c <;> cases fd : finB d
   ·have h := mul_inf2 Fc Fd Fa fc fd (lo_inf Fc q2 fc).1 (hi_inf Fd q3 fd).1
    rw [tB_comm 1 ha hc, tB_comm 2 ha hc, tB_comm 1 ha hd, tB_comm 2 ha hd] at h
    omega
   ·have h := mul_ends Fa Fd fa fd; omega
   ·have h := mul_ends Fa Fc fa fc; omega
   ·have h := mul_ends Fa Fc fa fc; omega
  ·cases fc : finB c <;> cases fd : finB d
   ·have h := mul_inf2 Fc Fd Fa fc fd (lo_inf Fc q2 fc).1 (hi_inf Fd q3 fd).1
    rw [tB_comm 1 ha hc, tB_comm 2 ha hc, tB_comm 1 ha hd, tB_comm 2 ha hd] at h
    omega
   ·have h := mul_ends Fa Fd fa fd; omega
   ·have h := mul_ends Fa Fc fa fc; omega
   ·have h := mul_ends Fa Fc fa fc; omega
 exact sRt_mk u1 v1 (by omega) key.1 key.2
theorem neg_back {x : Nat} (hx : x < 18446744073709551616) : negW (negW x) = x ∧ negW x < 18446744073709551616 ∧ place (negW x) = -place x ∧ rung (negW x) = rung x ∧ sgn (negW x) = !sgn x := by
 have h1 := neg_rung hx
 have h2 := negW_lt hx
 have h3 := neg_rung h2
 refine ⟨?_, h2, ?_, h1.1, h1.2⟩
 ·have e1 : rung (negW (negW x)) = rung x := h3.1.trans h1.1
  have e2 : sgn (negW (negW x)) = sgn x := by rw [h3.2, h1.2, Bool.not_not]
  have h4 := negW_lt h2
  unfold rung at e1
  unfold sgn at e2
  have e3 : (9223372036854775808 ≤ negW (negW x)) ↔ (9223372036854775808 ≤ x) := by simpa using e2
  generalize negW (negW x) = y at *
  omega
 ·unfold place
  rw [h1.1, h1.2]
  cases sgn x <;> simp
theorem neg_Fn {x : Nat} (h : Fn x) : Fn (negW x) := ⟨(neg_back h.1).2.1, by unfold nanB; rw [(neg_back h.1).2.2.2.1]; exact h.2⟩
theorem tB_infE {x y : Nat} (m : Int) (hx : Fn x) (hy : Fn y) (fx : finB x = false) : place (tB m x y) = if rung y = 0 then 0 else tnS (sgn x ^^ sgn y) 9218868437227405312 := by
 by_cases y0 : rung y = 0
 ·rw [if_pos y0]
  rcases mul_inf m hx hy fx with ⟨_, e⟩ | e
  ·rw [e]; rfl
  ·exfalso
   have : tB m x y = 0 := by unfold tB; rw [y0, fx]; simp
   rw [this] at e
   have p0 : place 0 = 0 := rfl
   rw [p0] at e
   unfold tnS at e
   split at e <;> omega
 ·rw [if_neg y0]
  rcases mul_inf m hx hy fx with ⟨e, _⟩ | e
  ·exact absurd e y0
  ·exact e
theorem tB_zero {x y : Nat} (m : Int) (hx : Fn x) (hy : Fn y) (y0 : rung y = 0) : place (tB m x y) = 0 := by
 have fy : finB y = true := by unfold finB; simp; omega
 cases fx : finB x
 ·rw [tB_infE m hx hy fx, if_pos y0]
 ·have e : tB m x y = mulB m x y := by unfold tB; rw [fx, fy]; simp
  have s : (someB x && someB y) = false := by unfold someB; rw [fy, y0]; simp
  have o := mulS_ok hx.1 hy.1 hx.2 hy.2 (by rw [fx, fy]; simp)
  obtain ⟨v, hv⟩ := Option.isSome_iff_exists.1 o
  have g : mulB m x y = v := by unfold mulB; rw [s, hv]; rfl
  rw [e, g]
  exact mul_zero_place hx hy fx fy s hv
theorem tB_mono {l x y : Nat} (m : Int) (hl : Fn l) (hx : Fn x) (hy : Fn y) (sy : sgn y = false) (h : place l ≤ place x) : place (tB m l y) ≤ place (tB m x y) := by
 cases fy : finB y
 ·rw [← tB_comm m hl.1 hy.1, ← tB_comm m hx.1 hy.1, tB_infE m hy hl fy, tB_infE m hy hx fy, sy]
  have e1 : ∀ s, tnS (false ^^ s) 9218868437227405312 = tnS s 9218868437227405312 := fun s => by cases s <;> rfl
  rw [e1, e1]
  unfold place at h
  have b1 := fn_rung hl
  have b2 := fn_rung hx
  cases sl : sgn l <;> cases sx : sgn x <;> rw [sl, sx] at h <;> simp only [if_true, Bool.false_eq_true, if_false, tnS] at h ⊢ <;> (repeat' split) <;> omega
 ·by_cases y0 : rung y = 0
  ·rw [tB_zero m hl hy y0, tB_zero m hx hy y0]; exact Int.le_refl _
  ·have el : tB m l y = mulB m l y := by unfold tB; simp [y0, fy]
   have ex : tB m x y = mulB m x y := by unfold tB; simp [y0, fy]
   rw [el, ex]
   exact mulO_le m hl hx hy sy h _ _ (mulO_some m (mulS_ok hl.1 hy.1 hl.2 hy.2 (by simp [y0, fy]))) (mulO_some m (mulS_ok hx.1 hy.1 hx.2 hy.2 (by simp [y0, fy])))
theorem fin_neg {x : Nat} (hx : x < 18446744073709551616) : finB (negW x) = finB x := by unfold finB; rw [(neg_back hx).2.2.2.1]
theorem mulB_lt64 {x y : Nat} (m : Int) (o : (floatBits .mul .f64 x y).isSome = true) : mulB m x y < 18446744073709551616 := by
 unfold mulB
 cases hf : (someB x && someB y)
 ·simp only [Bool.false_eq_true, if_false]
  obtain ⟨v, hv⟩ := Option.isSome_iff_exists.1 o
  rw [hv]
  exact (op_fn (op := .mul) (Or.inr (Or.inr (Or.inl rfl))) hv).1
 ·simp only [if_true]
  have sx : someB x = true := by revert hf; cases someB x <;> simp
  have sy : someB y = true := by revert hf; cases someB x <;> simp
  obtain ⟨v, hv⟩ := Option.isSome_iff_exists.1 o
  have hq : floatBits .mul .f64 x y = some (pQ x y) := by unfold pQ; rw [hv]; rfl
  exact stepF_lt _ _ (op_fn (op := .mul) (Or.inr (Or.inr (Or.inl rfl))) hq).1
theorem tB_turn {x y : Nat} (m : Int) (hx : Fn x) (hy : Fn y) : place (tB (tmd m) (negW x) y) = -place (tB m x y) := by
 obtain ⟨_, nl, _, nr, _⟩ := neg_back hx.1
 have nf := fin_neg hx.1
 unfold tB
 rw [nr, nf]
 cases c : ((rung x == 0 && !finB y) || (rung y == 0 && !finB x))
 ·simp only [Bool.false_eq_true, if_false]
  have o := mulS_ok hx.1 hy.1 hx.2 hy.2 c
  have e := mulO_turn m hx.1 hy.1
  rw [mulO_some m o] at e
  rw [mulB_O, e]
  exact (neg_back (mulB_lt64 m o)).2.2.1
 ·simp only [if_true]; rfl
theorem tB_anti {l x y : Nat} (m : Int) (hl : Fn l) (hx : Fn x) (hy : Fn y) (sy : sgn y = true) (h : place l ≤ place x) : place (tB m x y) ≤ place (tB m l y) := by
 obtain ⟨bb, nl, _, nr, ns⟩ := neg_back hy.1
 have ny := neg_Fn hy
 have s' : sgn (negW y) = false := by rw [ns, sy]; rfl
 have k := fun (z : Nat) (hz : Fn z) => (show place (tB m z y) = -place (tB (tmd m) z (negW y)) by
  have t := tB_turn (tmd m) ny hz
  rw [tmd_tmd, bb] at t
  rw [← tB_comm m hz.1 hy.1, ← tB_comm (tmd m) hz.1 nl]
  exact t)
 rw [k x hx, k l hl]
 have := tB_mono (tmd m) hl hx ny s' h
 omega
theorem tB_between {l x h y : Nat} (m : Int) (hl : Fn l) (hx : Fn x) (hh : Fn h) (hy : Fn y) (p1 : place l ≤ place x) (p2 : place x ≤ place h) :
  (place (tB m l y) ≤ place (tB m x y) ∧ place (tB m x y) ≤ place (tB m h y)) ∨ (place (tB m h y) ≤ place (tB m x y) ∧ place (tB m x y) ≤ place (tB m l y)) := by
 cases sy : sgn y
 ·exact Or.inl ⟨tB_mono m hl hx hy sy p1, tB_mono m hx hh hy sy p2⟩
 ·exact Or.inr ⟨tB_anti m hx hh hy sy p2, tB_anti m hl hx hy sy p1⟩
theorem mul_corner {a b c d x y : Nat} (m : Int) (ha : Fn a) (hb : Fn b) (hc : Fn c) (hd : Fn d) (hx : Fn x) (hy : Fn y) (p1 : place a ≤ place x) (p2 : place x ≤ place b) (q1 : place c ≤ place y) (q2 : place y ≤ place d) :
  (place (tB m a c) ≤ place (tB m x y) ∨ place (tB m a d) ≤ place (tB m x y) ∨ place (tB m b c) ≤ place (tB m x y) ∨ place (tB m b d) ≤ place (tB m x y)) ∧
  (place (tB m x y) ≤ place (tB m a c) ∨ place (tB m x y) ≤ place (tB m a d) ∨ place (tB m x y) ≤ place (tB m b c) ∨ place (tB m x y) ≤ place (tB m b d)) := by
 have h1 := tB_between m ha hx hb hy p1 p2
 have h2 := tB_between m hc hy hd ha q1 q2
 have h3 := tB_between m hc hy hd hb q1 q2
 rw [tB_comm m ha.1 hc.1, tB_comm m ha.1 hy.1, tB_comm m ha.1 hd.1] at h2
 rw [tB_comm m hb.1 hc.1, tB_comm m hb.1 hy.1, tB_comm m hb.1 hd.1] at h3
 omega
theorem lsC_is (R : Int → Nat → Nat → Nat) (a b c d : Nat) : lsC R a b c d = R 1 a c ∨ lsC R a b c d = R 1 a d ∨ lsC R a b c d = R 1 b c ∨ lsC R a b c d = R 1 b d := by
 unfold lsC
 rcases lsF_two (lsF (lsF (R 1 a c) (R 1 a d)) (R 1 b c)) (R 1 b d) with h | h <;> rw [h]
 ·rcases lsF_two (lsF (R 1 a c) (R 1 a d)) (R 1 b c) with h | h <;> rw [h]
  ·rcases lsF_two (R 1 a c) (R 1 a d) with h | h <;> rw [h] <;> simp
  ·simp
 ·simp
theorem grC_is (R : Int → Nat → Nat → Nat) (a b c d : Nat) : grC R a b c d = R 2 a c ∨ grC R a b c d = R 2 a d ∨ grC R a b c d = R 2 b c ∨ grC R a b c d = R 2 b d := by
 unfold grC
 rcases grF_two (grF (grF (R 2 a c) (R 2 a d)) (R 2 b c)) (R 2 b d) with h | h <;> rw [h]
 ·rcases grF_two (grF (R 2 a c) (R 2 a d)) (R 2 b c) with h | h <;> rw [h]
  ·rcases grF_two (R 2 a c) (R 2 a d) with h | h <;> rw [h] <;> simp
  ·simp
 ·simp
theorem mul_point {a b c d x y : Nat} (ha : Fn a) (hb : Fn b) (hc : Fn c) (hd : Fn d) (hx : Fn x) (hy : Fn y) (p1 : place a ≤ place x) (p2 : place x ≤ place b) (q1 : place c ≤ place y) (q2 : place y ≤ place d) :
  place (lsC tB a b c d) ≤ place (tB 1 x y) ∧ place (tB 2 x y) ≤ place (grC tB a b c d) := by
 have h1 := (mul_corner 1 ha hb hc hd hx hy p1 p2 q1 q2).1
 have h2 := (mul_corner 2 ha hb hc hd hx hy p1 p2 q1 q2).2
 obtain ⟨_, u2, u3, u4, u5⟩ := lsC_fn (tB_ways ha hc).1 (tB_ways ha hd).1 (tB_ways hb hc).1 (tB_ways hb hd).1
 obtain ⟨_, v2, v3, v4, v5⟩ := grC_fn (tB_ways ha hc).2.1 (tB_ways ha hd).2.1 (tB_ways hb hc).2.1 (tB_ways hb hd).2.1
 omega
theorem mul_within {a b c d x1 x2 y1 y2 : Nat} (ha : Fn a) (hb : Fn b) (hc : Fn c) (hd : Fn d) (hx1 : Fn x1) (hx2 : Fn x2) (hy1 : Fn y1) (hy2 : Fn y2) (p1 : place a ≤ place x1) (p : place x1 ≤ place x2) (p2 : place x2 ≤ place b) (q1 : place c ≤ place y1) (q : place y1 ≤ place y2) (q2 : place y2 ≤ place d) :
  place (lsC tB a b c d) ≤ place (lsC tB x1 x2 y1 y2) ∧ place (grC tB x1 x2 y1 y2) ≤ place (grC tB a b c d) := by
 have k := fun x y (hx : Fn x) (hy : Fn y) (h1 : place a ≤ place x) (h2 : place x ≤ place b) (h3 : place c ≤ place y) (h4 : place y ≤ place d) => mul_point ha hb hc hd hx hy h1 h2 h3 h4
 have k1 := k x1 y1 hx1 hy1 (by omega) (by omega) (by omega) (by omega)
 have k2 := k x1 y2 hx1 hy2 (by omega) (by omega) (by omega) (by omega)
 have k3 := k x2 y1 hx2 hy1 (by omega) (by omega) (by omega) (by omega)
 have k4 := k x2 y2 hx2 hy2 (by omega) (by omega) (by omega) (by omega)
 constructor
 ·rcases lsC_is tB x1 x2 y1 y2 with h | h | h | h <;> rw [h]
  ·exact k1.1
  ·exact k2.1
  ·exact k3.1
  ·exact k4.1
 ·rcases grC_is tB x1 x2 y1 y2 with h | h | h | h <;> rw [h]
  ·exact k1.2
  ·exact k2.2
  ·exact k3.2
  ·exact k4.2
theorem divB_O (m : Int) (x y : Nat) : divB m x y = (divO x y m).getD 0 := by unfold divB divO; split <;> rfl
theorem divO_some {x y : Nat} (m : Int) (h : (floatBits .quo .f64 x y).isSome = true) : divO x y m = some (divB m x y) := by
 unfold divB divO
 obtain ⟨v, hv⟩ := Option.isSome_iff_exists.1 h
 split
 ·rfl
 ·rw [hv]; rfl
theorem divB_lt64 {x y : Nat} (m : Int) (o : (floatBits .quo .f64 x y).isSome = true) : divB m x y < 18446744073709551616 := by
 unfold divB
 obtain ⟨v, hv⟩ := Option.isSome_iff_exists.1 o
 cases hf : (someB x && someB y)
 ·simp only [Bool.false_eq_true, if_false]
  rw [hv]
  exact (op_fn (op := .quo) (Or.inr (Or.inr (Or.inr rfl))) hv).1
 ·simp only [if_true]
  have hq : floatBits .quo .f64 x y = some (kQ x y) := by unfold kQ; rw [hv]; rfl
  exact stepF_lt _ _ (op_fn (op := .quo) (Or.inr (Or.inr (Or.inr rfl))) hq).1
theorem quo_inf_place {x y v : Nat} (hx : Fn x) (hy : Fn y) (fx : finB x = true) (fy : finB y = false) (e : floatBits .quo .f64 x y = some v) : place v = 0 := by
 rw [(fbits_map x y).2.2.2, read_fin hx.1 fx, (fn_inf hy fy).1] at e
 simp only [Ieee.Datum.quotient, Option.map_some] at e
 rw [← Option.some.inj e]
 exact zero_place (word_rung _ (show 0 < 9223372036854775808 by omega)).1
theorem oB_yinf {x y : Nat} (m : Int) (hx : Fn x) (hy : Fn y) (fy : finB y = false) : place (oB m x y) = 0 := by
 unfold oB
 rw [fy]
 cases fx : finB x
 ·rfl
 ·simp only [Bool.not_true, Bool.not_false, Bool.and_true, Bool.false_eq_true, if_false]
  have y0 : rung y ≠ 0 := by rw [(fn_inf hy fy).2.2]; omega
  have o := divS_ok hx.1 hy.1 hx.2 hy.2 (by rw [fx]; rfl) y0
  obtain ⟨v, hv⟩ := Option.isSome_iff_exists.1 o
  have s : someB y = false := by unfold someB; rw [fy]; rfl
  have g : divB m x y = v := by unfold divB; rw [s, hv, Bool.and_false]; rfl
  rw [g]
  exact quo_inf_place hx hy fx fy hv
theorem oB_fin {x y : Nat} (m : Int) (fy : finB y = true) : oB m x y = divB m x y := by unfold oB; rw [fy]; simp
theorem oB_ok {x y : Nat} (hx : Fn x) (hy : Fn y) (fy : finB y = true) (y0 : rung y ≠ 0) : (floatBits .quo .f64 x y).isSome = true := divS_ok hx.1 hy.1 hx.2 hy.2 (by rw [fy]; simp) y0
theorem oB_mono {l x y : Nat} (m : Int) (hl : Fn l) (hx : Fn x) (hy : Fn y) (y0 : rung y ≠ 0) (sy : sgn y = false) (h : place l ≤ place x) : place (oB m l y) ≤ place (oB m x y) := by
 cases fy : finB y
 ·rw [oB_yinf m hl hy fy, oB_yinf m hx hy fy]; exact Int.le_refl _
 ·rw [oB_fin m fy, oB_fin m fy]
  exact divO_le m hl hx hy sy y0 h _ _ (divO_some m (oB_ok hl hy fy y0)) (divO_some m (oB_ok hx hy fy y0))
theorem oB_turn {x y : Nat} (m : Int) (hx : Fn x) (hy : Fn y) (y0 : rung y ≠ 0) : place (oB (tmd m) x (negW y)) = -place (oB m x y) := by
 obtain ⟨_, nl, _, nr, _⟩ := neg_back hy.1
 have nf := fin_neg hy.1
 cases fy : finB y
 ·rw [oB_yinf m hx hy fy, oB_yinf (tmd m) hx (neg_Fn hy) (by rw [nf]; exact fy)]; rfl
 ·rw [oB_fin m fy, oB_fin (tmd m) (by rw [nf]; exact fy)]
  have o := oB_ok hx hy fy y0
  have e := divO_turn m hx.1 hy.1
  rw [divO_some m o] at e
  rw [divB_O, e]
  exact (neg_back (divB_lt64 m o)).2.2.1
theorem oB_anti {l x y : Nat} (m : Int) (hl : Fn l) (hx : Fn x) (hy : Fn y) (y0 : rung y ≠ 0) (sy : sgn y = true) (h : place l ≤ place x) : place (oB m x y) ≤ place (oB m l y) := by
 obtain ⟨bb, nl, _, nr, ns⟩ := neg_back hy.1
 have ny := neg_Fn hy
 have s' : sgn (negW y) = false := by rw [ns, sy]; rfl
 have k := fun (z : Nat) (hz : Fn z) => (show place (oB m z y) = -place (oB (tmd m) z (negW y)) by
  have t := oB_turn (tmd m) hz ny (by rw [nr]; exact y0)
  rw [tmd_tmd, bb] at t
  exact t)
 rw [k x hx, k l hl]
 have := oB_mono (tmd m) hl hx ny (by rw [nr]; exact y0) s' h
 omega
theorem told_scale {s : Bool} {A : Nat} {G : Nat → Nat} {f : Int → Nat} (c : Nat) (hc : 0 < c) (h : Told s A G f) : Told s (A * c) (fun q => G q * c) f := by
 obtain ⟨k, r, ⟨hk, h0, h1, h2⟩, hf⟩ := h
 refine ⟨k, r, ⟨hk, fun e => ⟨(h0 e).1, by show G k * c = A * c; rw [(h0 e).2]⟩, fun e => ⟨(h1 e).1, Nat.mul_lt_mul_of_pos_right (h1 e).2.1 hc, fun q => Nat.mul_lt_mul_of_pos_right ((h1 e).2.2 q) hc⟩, fun e => ⟨(h2 e).1, Nat.mul_lt_mul_of_pos_right (h2 e).2.1 hc, fun q => Nat.mul_lt_mul_of_pos_right ((h2 e).2.2 q) hc⟩⟩, hf⟩
theorem nmid_scale {M : Nat → Nat} {A k : Nat} (c : Nat) (hc : 0 < c) (h : Nmid M A k) : Nmid (fun q => M q * c) (A * c) k := by
 refine ⟨h.1, fun r hr => (h.2 r hr).trans ?_⟩
 constructor
 ·rintro (g | ⟨g, p⟩)
  ·exact Or.inl (Nat.mul_lt_mul_of_pos_right g hc)
  ·exact Or.inr ⟨by show M r * c = A * c; rw [g], p⟩
 ·rintro (g | ⟨g, p⟩)
  ·exact Or.inl (Nat.lt_of_mul_lt_mul_right g)
  ·exact Or.inr ⟨Nat.eq_of_mul_eq_mul_right hc g, p⟩
theorem div_told_le {x y z : Nat} (m : Int) (hx : Fn x) (hy : Fn y) (hz : Fn z) (sx : someB x = true) (sy : someB y = true) (sz : someB z = true) (es : sgn y = sgn z) (h : rung y ≤ rung z) :
  tnS (sgn x ^^ sgn y) (place (divB m x z)) ≤ tnS (sgn x ^^ sgn y) (place (divB m x y)) ∧ 0 ≤ tnS (sgn x ^^ sgn y) (place (divB m x z)) ∧ 0 ≤ tnS (sgn x ^^ sgn y) (place (divB m x y)) := by
 have e1 : divB m x y = stepF (kQ x y) (kS x y) m := by unfold divB; rw [sx, sy]; rfl
 have e2 : divB m x z = stepF (kQ x z) (kS x z) m := by unfold divB; rw [sx, sz]; rfl
 rw [e1, e2]
 have vy := val_ne sy
 have vz := val_ne sz
 have t1 := told_scale (val (rung z)) vz (div_told hx.1 hy.1 sx sy)
 have t2 := told_scale (val (rung y)) vy (div_told hx.1 hz.1 sx sz)
 have n1 := nmid_scale (val (rung z)) vz (div_nmid hx.1 hy.1 sx sy)
 have n2 := nmid_scale (val (rung y)) vy (div_nmid hx.1 hz.1 sx sz)
 rw [← es] at t2
 have g : (fun q => val q * val (rung z) * val (rung y)) = (fun q => val q * val (rung y) * val (rung z)) := by funext q; rw [Nat.mul_assoc, Nat.mul_comm (val (rung z)), ← Nat.mul_assoc]
 have gm : (fun q => (val q + val (q + 1)) * val (rung z) * val (rung y)) = (fun q => (val q + val (q + 1)) * val (rung y) * val (rung z)) := by funext q; rw [Nat.mul_assoc, Nat.mul_comm (val (rung z)), ← Nat.mul_assoc]
 rw [g] at t2
 rw [gm] at n2
 rw [Nat.mul_assoc] at n1 n2
 have hG : ∀ p q, p < q → (fun q => val q * val (rung y) * val (rung z)) p < (fun q => val q * val (rung y) * val (rung z)) q := fun p q hpq => Nat.mul_lt_mul_of_pos_right (Nat.mul_lt_mul_of_pos_right (val_lt hpq) vy) vz
 have hAB : val (rung x) * 2 ^ twP * val (rung y) ≤ val (rung x) * 2 ^ twP * val (rung z) := Nat.mul_le_mul_left _ (val_le_D h)
 have := told_le hG hAB t2 t1 (stepF_nil _ _) (stepF_nil _ _) n2 n1 m
 exact this
theorem quo_infx_place {x y v : Nat} (hx : Fn x) (hy : Fn y) (fx : finB x = false) (fy : finB y = true) (e : floatBits .quo .f64 x y = some v) : place v = tnS (sgn x ^^ sgn y) 9218868437227405312 := by
 rw [(fbits_map x y).2.2.2, (fn_inf hx fx).1, read_fin hy.1 fy] at e
 simp only [Ieee.Datum.quotient, Option.map_some] at e
 rw [← Option.some.inj e]
 exact place_word _ (Nat.le_refl _)
theorem quo_zero_place {x y v : Nat} (hx : Fn x) (hy : Fn y) (fy : finB y = true) (x0 : rung x = 0) (y0 : rung y ≠ 0) (e : floatBits .quo .f64 x y = some v) : place v = 0 := by
 have fx : finB x = true := by unfold finB; simp; omega
 have my : mg (rung y) ≠ 0 := by rw [Ne, mg_nil]; exact y0
 rw [(fbits_map x y).2.2.2, read_fin hx.1 fx, read_fin hy.1 fy, mg_nil.2 x0] at e
 simp only [Ieee.Datum.quotient, if_neg my, Option.map_some] at e
 have e2 := Option.some.inj e
 have zs : ∀ n, (0 : Nat) <<< n = 0 := fun n => Nat.zero_shiftLeft n
 simp only [zs, Nat.zero_div, Nat.zero_mod, Nat.mul_zero, bne_self_eq_false, Bool.toNat_false, Nat.add_zero] at e2
 rw [← e2]
 exact zero_place (word_rung _ (show 0 < 9223372036854775808 by omega)).1
theorem oB_div {x y z : Nat} (m : Int) (hx : Fn x) (hy : Fn y) (hz : Fn z) (y0 : rung y ≠ 0) (es : sgn y = sgn z) (h : rung y ≤ rung z) :
  tnS (sgn x ^^ sgn y) (place (oB m x z)) ≤ tnS (sgn x ^^ sgn y) (place (oB m x y)) ∧ 0 ≤ tnS (sgn x ^^ sgn y) (place (oB m x z)) := by
 have t0 : ∀ s, tnS s 0 = 0 := fun s => by cases s <;> rfl
 have z0 : rung z ≠ 0 := by omega
 have zfin : finB z = true → finB y = true := fun f => by unfold finB at f ⊢; simp at f ⊢; omega
 by_cases x0 : rung x = 0
 ·have k : ∀ w, Fn w → rung w ≠ 0 → place (oB m x w) = 0 := fun w hw w0 => by
   cases fw : finB w
   ·exact oB_yinf m hx hw fw
   ·rw [oB_fin m fw]
    obtain ⟨v, hv⟩ := Option.isSome_iff_exists.1 (oB_ok hx hw fw w0)
    have s : someB x = false := by unfold someB; rw [x0]; simp
    have g : divB m x w = v := by unfold divB; rw [s, hv]; rfl
    rw [g]; exact quo_zero_place hx hw fw x0 w0 hv
  rw [k y hy y0, k z hz z0, t0]; omega
 ·cases fx : finB x
  ·have k : ∀ w, Fn w → rung w ≠ 0 → finB w = true → place (oB m x w) = tnS (sgn x ^^ sgn w) 9218868437227405312 := fun w hw w0 fw => by
    rw [oB_fin m fw]
    obtain ⟨v, hv⟩ := Option.isSome_iff_exists.1 (oB_ok hx hw fw w0)
    have s : someB x = false := by unfold someB; rw [fx]; rfl
    have g : divB m x w = v := by unfold divB; rw [s, hv]; rfl
    rw [g]; exact quo_infx_place hx hw fx fw hv
   cases fz : finB z
   ·rw [oB_yinf m hx hz fz, t0]
    cases fy : finB y
    ·rw [oB_yinf m hx hy fy, t0]; omega
    ·rw [k y hy y0 fy, tnS_two]; omega
   ·rw [k z hz z0 fz, k y hy y0 (zfin fz), es, tnS_two]; omega
  ·have sx : someB x = true := by unfold someB; rw [fx]; simpa using x0
   cases fz : finB z
   ·rw [oB_yinf m hx hz fz, t0]
    cases fy : finB y
    ·rw [oB_yinf m hx hy fy, t0]; omega
    ·have sy : someB y = true := by unfold someB; rw [fy]; simpa using y0
     rw [oB_fin m fy]
     have := (div_told_le m hx hy hy sx sy sy rfl (Nat.le_refl _)).2.1
     omega
   ·have sz : someB z = true := by unfold someB; rw [fz]; simpa using z0
    have sy : someB y = true := by unfold someB; rw [zfin fz]; simpa using y0
    rw [oB_fin m fz, oB_fin m (zfin fz)]
    have := div_told_le m hx hy hz sx sy sz es h
    omega
theorem oB_side {x c y d : Nat} (m : Int) (hx : Fn x) (hc : Fn c) (hy : Fn y) (hd : Fn d) (c0 : rung c ≠ 0) (d0 : rung d ≠ 0) (sd : sgn c = sgn d) (q1 : place c ≤ place y) (q2 : place y ≤ place d) :
  (place (oB m x c) ≤ place (oB m x y) ∧ place (oB m x y) ≤ place (oB m x d)) ∨ (place (oB m x d) ≤ place (oB m x y) ∧ place (oB m x y) ≤ place (oB m x c)) := by
 have hs : sgn y = sgn c ∧ rung y ≠ 0 ∧ ((sgn c = false ∧ rung c ≤ rung y ∧ rung y ≤ rung d) ∨ (sgn c = true ∧ rung d ≤ rung y ∧ rung y ≤ rung c)) := by
  unfold place at q1 q2
  rw [← sd] at q2
  cases s1 : sgn c <;> cases s2 : sgn y <;> rw [s1, s2] at q1 q2 <;> simp only [if_true, Bool.false_eq_true, if_false] at q1 q2
  ·exact ⟨rfl, by omega, Or.inl ⟨rfl, by omega, by omega⟩⟩
  ·omega
  ·omega
  ·exact ⟨rfl, by omega, Or.inr ⟨rfl, by omega, by omega⟩⟩
 obtain ⟨s1, y0, h⟩ := hs
 rcases h with ⟨_, h1, h2⟩ | ⟨_, h1, h2⟩
 ·have a1 := (oB_div m hx hc hy c0 s1.symm h1).1
  have a2 := (oB_div m hx hy hd y0 (s1.trans sd) h2).1
  rw [s1] at a2
  cases k : (sgn x ^^ sgn c) <;> rw [k] at a1 a2 <;> simp only [tnS, if_true, Bool.false_eq_true, if_false] at a1 a2 <;> omega
 ·have a1 := (oB_div m hx hd hy d0 (sd.symm.trans s1.symm) h1).1
  have a2 := (oB_div m hx hy hc y0 s1 h2).1
  rw [← sd] at a1
  rw [s1] at a2
  cases k : (sgn x ^^ sgn c) <;> rw [k] at a1 a2 <;> simp only [tnS, if_true, Bool.false_eq_true, if_false] at a1 a2 <;> omega
theorem oB_between {l x h y : Nat} (m : Int) (hl : Fn l) (hx : Fn x) (hh : Fn h) (hy : Fn y) (y0 : rung y ≠ 0) (p1 : place l ≤ place x) (p2 : place x ≤ place h) :
  (place (oB m l y) ≤ place (oB m x y) ∧ place (oB m x y) ≤ place (oB m h y)) ∨ (place (oB m h y) ≤ place (oB m x y) ∧ place (oB m x y) ≤ place (oB m l y)) := by
 cases sy : sgn y
 ·exact Or.inl ⟨oB_mono m hl hx hy y0 sy p1, oB_mono m hx hh hy y0 sy p2⟩
 ·exact Or.inr ⟨oB_anti m hx hh hy y0 sy p2, oB_anti m hl hx hy y0 sy p1⟩
theorem oB_ways {x y : Nat} (hx : Fn x) (hy : Fn y) (y0 : rung y ≠ 0) : Fn (oB 1 x y) ∧ Fn (oB 2 x y) ∧ place (oB 1 x y) ≤ place (oB 2 x y) := by
 unfold oB
 cases h : (!finB x && !finB y)
 ·simp only [Bool.false_eq_true, if_false]
  have o := divS_ok hx.1 hy.1 hx.2 hy.2 h y0
  have e1 : dO 3 x y 0 1 = some (divB 1 x y) := divO_some 1 o
  have e2 : dO 3 x y 0 2 = some (divB 2 x y) := divO_some 2 o
  rcases ways_3 (a := x) (b := y) 0 hx hy with g | ⟨d, n, u, z, g1, g2, g3, g4, r1, r2, r3, r4, r5, r6, _⟩
  ·rw [g 1] at e1; cases e1
  ·rw [e1] at g1; rw [e2] at g3
   cases g1; cases g3
   exact ⟨r1, r3, by omega⟩
 ·simp only [if_true]
  exact ⟨⟨by omega, rfl⟩, ⟨by omega, rfl⟩, Int.le_refl _⟩
theorem div_corner {a b c d x y : Nat} (m : Int) (ha : Fn a) (hb : Fn b) (hc : Fn c) (hd : Fn d) (hx : Fn x) (hy : Fn y) (c0 : rung c ≠ 0) (d0 : rung d ≠ 0) (y0 : rung y ≠ 0) (sd : sgn c = sgn d) (p1 : place a ≤ place x) (p2 : place x ≤ place b) (q1 : place c ≤ place y) (q2 : place y ≤ place d) :
  (place (oB m a c) ≤ place (oB m x y) ∨ place (oB m a d) ≤ place (oB m x y) ∨ place (oB m b c) ≤ place (oB m x y) ∨ place (oB m b d) ≤ place (oB m x y)) ∧
  (place (oB m x y) ≤ place (oB m a c) ∨ place (oB m x y) ≤ place (oB m a d) ∨ place (oB m x y) ≤ place (oB m b c) ∨ place (oB m x y) ≤ place (oB m b d)) := by
 have h1 := oB_between m ha hx hb hy y0 p1 p2
 have h2 := oB_side m ha hc hy hd c0 d0 sd q1 q2
 have h3 := oB_side m hb hc hy hd c0 d0 sd q1 q2
 omega
theorem div_point {a b c d x y : Nat} (ha : Fn a) (hb : Fn b) (hc : Fn c) (hd : Fn d) (hx : Fn x) (hy : Fn y) (c0 : rung c ≠ 0) (d0 : rung d ≠ 0) (y0 : rung y ≠ 0) (sd : sgn c = sgn d) (p1 : place a ≤ place x) (p2 : place x ≤ place b) (q1 : place c ≤ place y) (q2 : place y ≤ place d) :
  place (lsC oB a b c d) ≤ place (oB 1 x y) ∧ place (oB 2 x y) ≤ place (grC oB a b c d) := by
 have h1 := (div_corner 1 ha hb hc hd hx hy c0 d0 y0 sd p1 p2 q1 q2).1
 have h2 := (div_corner 2 ha hb hc hd hx hy c0 d0 y0 sd p1 p2 q1 q2).2
 obtain ⟨_, u2, u3, u4, u5⟩ := lsC_fn (oB_ways ha hc c0).1 (oB_ways ha hd d0).1 (oB_ways hb hc c0).1 (oB_ways hb hd d0).1
 obtain ⟨_, v2, v3, v4, v5⟩ := grC_fn (oB_ways ha hc c0).2.1 (oB_ways ha hd d0).2.1 (oB_ways hb hc c0).2.1 (oB_ways hb hd d0).2.1
 omega
theorem div_within {a b c d x1 x2 y1 y2 : Nat} (ha : Fn a) (hb : Fn b) (hc : Fn c) (hd : Fn d) (hx1 : Fn x1) (hx2 : Fn x2) (hy1 : Fn y1) (hy2 : Fn y2) (c0 : rung c ≠ 0) (d0 : rung d ≠ 0) (y0 : rung y1 ≠ 0) (z0 : rung y2 ≠ 0) (sd : sgn c = sgn d) (p1 : place a ≤ place x1) (p : place x1 ≤ place x2) (p2 : place x2 ≤ place b) (q1 : place c ≤ place y1) (q : place y1 ≤ place y2) (q2 : place y2 ≤ place d) :
  place (lsC oB a b c d) ≤ place (lsC oB x1 x2 y1 y2) ∧ place (grC oB x1 x2 y1 y2) ≤ place (grC oB a b c d) := by
 have k := fun x y (hx : Fn x) (hy : Fn y) (y0 : rung y ≠ 0) (h1 : place a ≤ place x) (h2 : place x ≤ place b) (h3 : place c ≤ place y) (h4 : place y ≤ place d) => div_point ha hb hc hd hx hy c0 d0 y0 sd h1 h2 h3 h4
 have k1 := k x1 y1 hx1 hy1 y0 (by omega) (by omega) (by omega) (by omega)
 have k2 := k x1 y2 hx1 hy2 z0 (by omega) (by omega) (by omega) (by omega)
 have k3 := k x2 y1 hx2 hy1 y0 (by omega) (by omega) (by omega) (by omega)
 have k4 := k x2 y2 hx2 hy2 z0 (by omega) (by omega) (by omega) (by omega)
 constructor
 ·rcases lsC_is oB x1 x2 y1 y2 with h | h | h | h <;> rw [h]
  ·exact k1.1
  ·exact k2.1
  ·exact k3.1
  ·exact k4.1
 ·rcases grC_is oB x1 x2 y1 y2 with h | h | h | h <;> rw [h]
  ·exact k1.2
  ·exact k2.2
  ·exact k3.2
  ·exact k4.2
def muP (p q : Nat × Nat) : Nat × Nat := (lsC tB p.1 p.2 q.1 q.2, grC tB p.1 p.2 q.1 q.2)
def RtP (p : Nat × Nat) : Prop := p.1 < 18446744073709551616 ∧ p.2 < 18446744073709551616 ∧ sRt p.1 p.2 = true
theorem muP_rt {p q : Nat × Nat} (h : RtP p) (g : RtP q) : RtP (muP p q) := by
 have r := mul_right h.1 h.2.1 g.1 g.2.1 h.2.2 g.2.2
 obtain ⟨na, nb, _⟩ := rt_facts h.1 h.2.1 h.2.2
 obtain ⟨nc, nd, _⟩ := rt_facts g.1 g.2.1 g.2.2
 have Fa : Fn p.1 := ⟨h.1, na⟩
 have Fb : Fn p.2 := ⟨h.2.1, nb⟩
 have Fc : Fn q.1 := ⟨g.1, nc⟩
 have Fd : Fn q.2 := ⟨g.2.1, nd⟩
 obtain ⟨x1, y1, _⟩ := tB_ways Fa Fc
 obtain ⟨x2, y2, _⟩ := tB_ways Fa Fd
 obtain ⟨x3, y3, _⟩ := tB_ways Fb Fc
 obtain ⟨x4, y4, _⟩ := tB_ways Fb Fd
 exact ⟨(lsC_fn x1 x2 x3 x4).1.1, (grC_fn y1 y2 y3 y4).1.1, r⟩
theorem Bx.keep {wr : World} {b c : Nat} {x y : Value} (h : Bx wr b x y) (o : Obj) {w1 : World} (hb : Below (wr.alloc o).heap.size (wr.alloc o) w1) (n : b ≠ c) (u v : Value) : Bx ((w1.setCell ⟨c, 0, none⟩ u).setCell ⟨c, 1, none⟩ v) b x y := ((h.alloc o).below hb).other n u v
def Wt (p q : Nat × Nat) : Prop := place q.1 ≤ place p.1 ∧ place p.2 ≤ place q.2
theorem RtP.fn {p : Nat × Nat} (h : RtP p) : Fn p.1 ∧ Fn p.2 := rt_fn h.1 h.2.1 h.2.2
theorem RtP.pl {p : Nat × Nat} (h : RtP p) : place p.1 ≤ place p.2 ∧ place p.1 ≤ 9218868437227405311 ∧ -9218868437227405311 ≤ place p.2 := (rt_place h.1 h.2.1 h.2.2).2.2
theorem RtP.mk {p : Nat × Nat} (f1 : Fn p.1) (f2 : Fn p.2) (h1 : place p.1 ≤ place p.2) (h2 : place p.1 ≤ 9218868437227405311) (h3 : -9218868437227405311 ≤ place p.2) : RtP p := ⟨f1.1, f2.1, sRt_mk f1 f2 h1 h2 h3⟩
theorem muP_wt {x y a b : Nat × Nat} (hx : RtP x) (hy : RtP y) (ha : RtP a) (hb : RtP b) (h : Wt x a) (g : Wt y b) : Wt (muP x y) (muP a b) :=
 mul_within ha.fn.1 ha.fn.2 hb.fn.1 hb.fn.2 hx.fn.1 hx.fn.2 hy.fn.1 hy.fn.2 h.1 hx.pl.1 h.2 g.1 hy.pl.1 g.2
def diP (p q : Nat × Nat) : Nat × Nat := (lsC oB p.1 p.2 q.1 q.2, grC oB p.1 p.2 q.1 q.2)
def No0 (q : Nat × Nat) : Prop := rung q.1 ≠ 0 ∧ rung q.2 ≠ 0 ∧ sgn q.1 = sgn q.2
theorem div_ends {x y : Nat} (hx : Fn x) (hy : Fn y) (fx : finB x = true) (y0 : rung y ≠ 0) : place (oB 1 x y) ≤ 9218868437227405311 ∧ -9218868437227405311 ≤ place (oB 2 x y) := by
 cases fy : finB y
 ·rw [oB_yinf 1 hx hy fy, oB_yinf 2 hx hy fy]; omega
 ·rw [oB_fin 1 fy, oB_fin 2 fy]
  by_cases x0 : rung x = 0
  ·obtain ⟨v, hv⟩ := Option.isSome_iff_exists.1 (oB_ok hx hy fy y0)
   have s : someB x = false := by unfold someB; rw [x0]; simp
   have g : ∀ m, divB m x y = v := fun m => by unfold divB; rw [s, hv]; rfl
   rw [g, g, quo_zero_place hx hy fy x0 y0 hv]; omega
  ·have sx : someB x = true := by unfold someB; rw [fx]; simpa using x0
   have sy : someB y = true := by unfold someB; rw [fy]; simpa using y0
   have e : ∀ m, divB m x y = stepF (kQ x y) (kS x y) m := fun m => by unfold divB; rw [sx, sy]; rfl
   rw [e, e]
   exact told_ends (div_told hx.1 hy.1 sx sy)
theorem diP_rt {p q : Nat × Nat} (h : RtP p) (g : RtP q) (n : No0 q) : RtP (diP p q) := by
 obtain ⟨Fa, Fb⟩ := h.fn
 obtain ⟨Fc, Fd⟩ := g.fn
 obtain ⟨p1, p2, p3⟩ := h.pl
 obtain ⟨c0, d0, sd⟩ := n
 obtain ⟨x1, y1, z1⟩ := oB_ways Fa Fc c0
 obtain ⟨x2, y2, z2⟩ := oB_ways Fa Fd d0
 obtain ⟨x3, y3, z3⟩ := oB_ways Fb Fc c0
 obtain ⟨x4, y4, z4⟩ := oB_ways Fb Fd d0
 obtain ⟨u1, u2, u3, u4, u5⟩ := lsC_fn x1 x2 x3 x4
 obtain ⟨v1, v2, v3, v4, v5⟩ := grC_fn y1 y2 y3 y4
 have key : place (lsC oB p.1 p.2 q.1 q.2) ≤ 9218868437227405311 ∧ -9218868437227405311 ≤ place (grC oB p.1 p.2 q.1 q.2) := by
  cases fa : finB p.1
  ·cases fb : finB p.2
   ·cases fc : finB q.1
    ·have e1 := oB_yinf 1 Fa Fc fc
     have e2 := oB_yinf 2 Fa Fc fc
     omega
    ·have k : ∀ m x, Fn x → finB x = false → place (oB m x q.1) = tnS (sgn x ^^ sgn q.1) 9218868437227405312 := fun m x hx fx => by
      rw [oB_fin m fc]
      obtain ⟨v, hv⟩ := Option.isSome_iff_exists.1 (oB_ok hx Fc fc c0)
      have s : someB x = false := by unfold someB; rw [fx]; rfl
      have g : divB m x q.1 = v := by unfold divB; rw [s, hv]; rfl
      rw [g]; exact quo_infx_place hx Fc fx fc hv
     have e1 := k 1 _ Fa fa
     have e2 := k 1 _ Fb fb
     have e3 := k 2 _ Fa fa
     have e4 := k 2 _ Fb fb
     rw [(lo_inf Fa p2 fa).1] at e1 e3
     rw [(hi_inf Fb p3 fb).1] at e2 e4
     cases s : sgn q.1 <;> rw [s] at e1 e2 e3 e4 <;> simp [tnS] at e1 e2 e3 e4 <;> omega
   ·have e := div_ends Fb Fc fb c0; omega
  ·have e := div_ends Fa Fc fa c0; omega
 exact RtP.mk u1 v1 (by simp only [diP]; omega) key.1 key.2
theorem diP_wt {x y a b : Nat × Nat} (hx : RtP x) (hy : RtP y) (ha : RtP a) (hb : RtP b) (h : Wt x a) (g : Wt y b) (n : No0 b) (n2 : No0 y) : Wt (diP x y) (diP a b) :=
 div_within ha.fn.1 ha.fn.2 hb.fn.1 hb.fn.2 hx.fn.1 hx.fn.2 hy.fn.1 hy.fn.2 n.1 n.2.1 n2.1 n2.2.1 n.2.2 h.1 hx.pl.1 h.2 g.1 hy.pl.1 g.2
def sqP (p : Nat × Nat) : Nat × Nat := (sqB 1 p.1, sqB 2 p.2)
theorem sqO_some {x : Nat} (m : Int) (h : (FloatKind.f64.format.sqrt x).isSome = true) : sqO x m = some (sqB m x) := by
 unfold sqB sqO
 obtain ⟨v, hv⟩ := Option.isSome_iff_exists.1 h
 split
 ·rfl
 ·rw [hv]; rfl
theorem root_ok {x : Nat} (hx : Fn x) (h : 0 ≤ place x) : (FloatKind.f64.format.sqrt x).isSome = true := sqrtS_ok hx.1 hx.2 (by
 unfold place at h
 cases s : sgn x
 ·exact Or.inl rfl
 ·rw [s] at h; simp only [if_true] at h; right; omega)
theorem sqP_rt {p : Nat × Nat} (h : RtP p) (h0 : 0 ≤ place p.1) : RtP (sqP p) := by
 obtain ⟨F1, F2⟩ := h.fn
 obtain ⟨p1, p2, p3⟩ := h.pl
 have o1 := root_ok F1 h0
 have o2 := root_ok F2 (by omega)
 have e1 := sqO_some 1 o1
 have e2 := sqO_some 2 o2
 have e3 := sqO_some 2 o1
 obtain ⟨_, a2, a3, a4, a5, a6⟩ := sqO_facts 1 F1 e1
 obtain ⟨_, b2, b3, b4, b5, b6⟩ := sqO_facts 2 F2 e2
 have l2 := sqO_le 2 F1 F2 p1 _ _ e3 e2
 have l1 : place (sqB 1 p.1) ≤ place (sqB 2 p.1) := by
  have d1 : dO 4 p.1 0 0 1 = some (sqB 1 p.1) := e1
  have d2 : dO 4 p.1 0 0 2 = some (sqB 2 p.1) := e3
  rcases ways_4 (a := p.1) (b := 0) 0 F1 with g | ⟨d, n, u, z, g1, g2, g3, g4, r1, r2, r3, r4, r5, r6, _⟩
  ·rw [g 1] at d1; cases d1
  ·rw [d1] at g1; rw [d2] at g3
   cases g1; cases g3
   omega
 have top : place (sqB 1 p.1) ≤ 9218868437227405311 := by
  have fin : finB p.1 = true := by
   cases f : finB p.1
   ·have := (lo_inf F1 p2 f).2; omega
   ·rfl
  by_cases z : place p.1 = 0
  ·have := a4 z; omega
  ·have r0 : rung p.1 ≠ 0 := fun e => z (zero_place e)
   have s0 : sgn p.1 = false := by
    unfold place at h0 z
    cases s : sgn p.1
    ·rfl
    ·rw [s] at h0 z; simp only [if_true] at h0 z; omega
   have sm : someB p.1 = true := by unfold someB; rw [fin]; simpa using r0
   have e : sqB 1 p.1 = stepF (tQ p.1) (tS p.1) 1 := by unfold sqB; rw [sm, s0]; rfl
   rw [e]
   exact (told_ends (sqrt_told F1.1 sm s0)).1
 exact RtP.mk a6 b6 (by simp only [sqP]; omega) top (by simp only [sqP]; omega)
theorem sqP_wt {x a : Nat × Nat} (hx : RtP x) (ha : RtP a) (h : Wt x a) (h0 : 0 ≤ place a.1) : Wt (sqP x) (sqP a) := by
 obtain ⟨h1, h2⟩ := h
 have := ha.pl.1
 have := hx.pl.1
 exact ⟨sqO_le 1 ha.fn.1 hx.fn.1 h1 _ _ (sqO_some 1 (root_ok ha.fn.1 h0)) (sqO_some 1 (root_ok hx.fn.1 (by omega))), sqO_le 2 hx.fn.2 ha.fn.2 h2 _ _ (sqO_some 2 (root_ok hx.fn.2 (by omega))) (sqO_some 2 (root_ok ha.fn.2 (by omega)))⟩
theorem pos_sgn {x : Nat} (h : 0 < place x) : sgn x = false := by
 unfold place at h
 cases s : sgn x
 ·rfl
 ·rw [s] at h; simp only [if_true] at h; omega
end Go.Proofs.YtfipmopmpacdaaaGreatDoor
