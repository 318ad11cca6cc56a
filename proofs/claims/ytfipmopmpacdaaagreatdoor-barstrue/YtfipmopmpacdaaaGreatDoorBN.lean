/- What the law asks of one spring, answered; all springs of a plan in their order. -/
import Derived.Test.YtfipmopmpacdaaaGreatDoorWA
import Derived.Test.YtfipmopmpacdaaaGreatDoorBE
import Derived.Test.YtfipmopmpacdaaaGreatDoorBL
import Derived.Test.YtfipmopmpacdaaaGreatDoorBG
import Derived.Test.YtfipmopmpacdaaaGreatDoorK2
namespace Go.Proofs.YtfipmopmpacdaaaGreatDoor
open Go.RowKit
def HoX (p : Nat × Nat) (X : Int) : Prop := (finB p.1 = true → vI p.1 * 2 ^ twP ≤ X) ∧ (finB p.2 = true → X ≤ vI p.2 * 2 ^ twP)
theorem vW5 (s : Bool) {q : Nat} (h : q ≤ 9218868437227405312) : vI (Ieee.double.word s q) = (if s then -(val q : Int) else (val q : Int)) ∧ finB (Ieee.double.word s q) = decide (q < 9218868437227405312) := by
 have hw := word_rung s (show q < 9223372036854775808 by omega)
 unfold vI finB
 rw [hw.1, hw.2]
 exact ⟨rfl, rfl⟩
theorem brk_dn {A k : Nat} {r : Int} {G : Nat → Nat} (h : Brk A G k r) : G (rgS k r 1) ≤ A ∧ rgS k r 1 ≤ 9218868437227405312 := by
 obtain ⟨hk, h0, h1, h2⟩ := h
 unfold rgS
 rcases Int.lt_trichotomy r 0 with g | g | g
 ·rw [if_pos ⟨Or.inl rfl, g⟩]; exact ⟨Nat.le_of_lt (h2 g).2.1, by omega⟩
 ·rw [if_neg (by omega), if_neg (by omega)]; exact ⟨Nat.le_of_eq (h0 g).2, hk⟩
 ·rw [if_neg (by omega), if_neg (by omega)]; exact ⟨Nat.le_of_lt (h1 g).2.1, hk⟩
theorem brk_up {A k : Nat} {r : Int} {G : Nat → Nat} (h : Brk A G k r) : (rgS k r 2 < 9218868437227405312 → A ≤ G (rgS k r 2)) ∧ rgS k r 2 ≤ 9218868437227405312 := by
 obtain ⟨hk, h0, h1, h2⟩ := h
 unfold rgS
 rcases Int.lt_trichotomy r 0 with g | g | g
 ·rw [if_neg (by omega), if_neg (by omega)]; exact ⟨fun q => Nat.le_of_lt ((h2 g).2.2 q), hk⟩
 ·rw [if_neg (by omega), if_neg (by omega)]; exact ⟨fun _ => Nat.le_of_eq (h0 g).2.symm, hk⟩
 ·rw [if_neg (by omega), if_pos ⟨rfl, g⟩]; exact ⟨fun q => Nat.le_of_lt ((h1 g).2.2 q), by have := (h1 g).1; omega⟩
theorem told_val {s : Bool} {A : Nat} {G : Nat → Nat} {f : Int → Nat} (h : Told s A G f) :
  (s = false → (vI (f 1) = (val (rung (f 1)) : Int) ∧ sgn (f 1) = false ∧ G (rung (f 1)) ≤ A) ∧ (vI (f 2) = (val (rung (f 2)) : Int) ∧ sgn (f 2) = false ∧ (finB (f 2) = true → A ≤ G (rung (f 2))))) ∧
  (s = true → (vI (f 1) = -(val (rung (f 1)) : Int) ∧ sgn (f 1) = true ∧ (finB (f 1) = true → A ≤ G (rung (f 1)))) ∧ (vI (f 2) = -(val (rung (f 2)) : Int) ∧ sgn (f 2) = true ∧ G (rung (f 2)) ≤ A)) := by
 obtain ⟨k, r, hB, hf⟩ := h
 obtain ⟨d1, d2⟩ := brk_dn hB
 obtain ⟨u1, u2⟩ := brk_up hB
 have t1 : tmd 1 = 2 := rfl
 have t2 : tmd 2 = 1 := rfl
 have wr := fun (s : Bool) (q : Nat) (hq : q ≤ 9218868437227405312) => word_rung s (show q < 9223372036854775808 by omega)
 constructor
 ·rintro rfl
  have e1 : f 1 = Ieee.double.word false (rgS k r 1) := hf 1
  have e2 : f 2 = Ieee.double.word false (rgS k r 2) := hf 2
  rw [e1, e2, (wr false _ d2).1, (wr false _ u2).1]
  exact ⟨⟨(vW5 false d2).1, (wr false _ d2).2, d1⟩, (vW5 false u2).1, (wr false _ u2).2, fun q => u1 (by rw [(vW5 false u2).2] at q; simpa using q)⟩
 ·rintro rfl
  have e1 : f 1 = Ieee.double.word true (rgS k r 2) := hf 1
  have e2 : f 2 = Ieee.double.word true (rgS k r 1) := hf 2
  rw [e1, e2, (wr true _ d2).1, (wr true _ u2).1]
  exact ⟨⟨(vW5 true u2).1, (wr true _ u2).2, fun q => u1 (by rw [(vW5 true u2).2] at q; simpa using q)⟩, (vW5 true d2).1, (wr true _ d2).2, d1⟩
theorem pwp5 : (0 : Int) < 2 ^ twP := by
 have h := Nat.two_pow_pos twP
 generalize twP = t at *
 have e : ((2 ^ t : Nat) : Int) = (2 : Int) ^ t := (by simp)
 rw [← e]
 omega
theorem pwc5 : ((2 ^ twP : Nat) : Int) = (2 : Int) ^ twP := by
 generalize twP = t
 simp
theorem fu_exact {X : Int} (h0 : X ≠ 0) : HoX (fuV X 1, fuV X 2) X := by
 obtain ⟨hf, ht⟩ := told_val (fu_told h0)
 have pc := pwc5
 unfold HoX
 simp only
 rw [← pc]
 generalize (2 : Nat) ^ twP = c at *
 rcases Int.lt_or_le X 0 with g | g
 ·obtain ⟨⟨v1, _, a1⟩, v2, _, a2⟩ := ht (by simpa using g)
  rw [v1, v2]
  have e1 : -(val (rung (fuV X 1)) : Int) * (c : Int) = -((val (rung (fuV X 1)) * c : Nat) : Int) := by rw [Int.neg_mul]; simp
  have e2 : -(val (rung (fuV X 2)) : Int) * (c : Int) = -((val (rung (fuV X 2)) * c : Nat) : Int) := by rw [Int.neg_mul]; simp
  rw [e1, e2]
  exact ⟨fun q => by have k : X.natAbs ≤ val (rung (fuV X 1)) * c := a1 q; omega, fun _ => by have k : val (rung (fuV X 2)) * c ≤ X.natAbs := a2; omega⟩
 ·obtain ⟨⟨v1, _, a1⟩, v2, _, a2⟩ := hf (by simpa using g)
  rw [v1, v2]
  have e1 : (val (rung (fuV X 1)) : Int) * (c : Int) = ((val (rung (fuV X 1)) * c : Nat) : Int) := by simp
  have e2 : (val (rung (fuV X 2)) : Int) * (c : Int) = ((val (rung (fuV X 2)) * c : Nat) : Int) := by simp
  rw [e1, e2]
  exact ⟨fun _ => by have k : val (rung (fuV X 1)) * c ≤ X.natAbs := a1; omega, fun q => by have k : X.natAbs ≤ val (rung (fuV X 2)) * c := a2 q; omega⟩
theorem vIn5 {v : Nat} (h : place v = 0) : vI v = 0 := by
 have r : rung v = 0 := by unfold place at h; split at h <;> omega
 unfold vI
 rw [r, val_zero]
 split <;> rfl
theorem ho_zero {p : Nat × Nat} (h1 : place p.1 = 0) (h2 : place p.2 = 0) : HoX p 0 := by
 unfold HoX
 rw [vIn5 h1, vIn5 h2]
 simp
theorem mul_exact {x y : Nat} (hx : Fn x) (hy : Fn y) (fx : finB x = true) (fy : finB y = true) : HoX (tB 1 x y, tB 2 x y) (vI x * vI y) := by
 have e : ∀ m, tB m x y = mulB m x y := fun m => by unfold tB; rw [fx, fy]; simp
 rw [e, e]
 cases s : (someB x && someB y)
 ·have o := mulS_ok hx.1 hy.1 hx.2 hy.2 (by rw [fx, fy]; simp)
  obtain ⟨v, hv⟩ := Option.isSome_iff_exists.1 o
  have g : ∀ m, mulB m x y = v := fun m => by unfold mulB; rw [s, hv]; rfl
  have z := mul_zero_place hx hy fx fy s hv
  have z2 : vI x * vI y = 0 := by
   have zz : rung x = 0 ∨ rung y = 0 := by
    unfold someB at s
    rw [fx, fy] at s
    simp at s
    omega
   rcases zz with q | q
   ·rw [vIn5 (zero_place q), Int.zero_mul]
   ·rw [vIn5 (zero_place q), Int.mul_zero]
  rw [g, g, z2]
  exact ho_zero z z
 ·have sx : someB x = true := by revert s; cases someB x <;> simp
  have sy : someB y = true := by revert s; cases someB x <;> simp
  have g : ∀ m, mulB m x y = fuV (vI x * vI y) m := fun m => by unfold mulB; rw [s]; exact mul_fu m hx.1 hy.1 sx sy
  rw [g, g]
  have rx := (vI_sign (show rung x ≠ 0 by simpa using (some_rung sx).2)).1
  have ry := (vI_sign (show rung y ≠ 0 by simpa using (some_rung sy).2)).1
  exact fu_exact (Int.mul_ne_zero rx ry)
theorem fin_mid {x : Nat} (h : Fn x) (p1 : place x ≤ 9218868437227405311) (p2 : -9218868437227405311 ≤ place x) : finB x = true := by
 cases f : finB x
 ·have := (lo_inf h p1 f).2; omega
 ·rfl
theorem ho_wider {p q : Nat × Nat} {X : Int} (hq : RtP q) (w : Wt q p) (h : HoX q X) : HoX p X := by
 obtain ⟨w1, w2⟩ := w
 obtain ⟨q1, q2, q3⟩ := hq.pl
 have c := Int.le_of_lt pwp5
 constructor
 ·intro f
  have pf := pl_fin f
  have fq := fin_mid hq.fn.1 q2 (by omega)
  exact Int.le_trans (Int.mul_le_mul_of_nonneg_right (vI_le_of w1) c) (h.1 fq)
 ·intro f
  have pf := pl_fin f
  have fq := fin_mid hq.fn.2 (by omega) q3
  exact Int.le_trans (h.2 fq) (Int.mul_le_mul_of_nonneg_right (vI_le_of w2) c)
def Of1 (x : Nat) (a : Nat × Nat) : Prop := Fn x ∧ finB x = true ∧ place a.1 ≤ place x ∧ place x ≤ place a.2
theorem Of1.rt {x : Nat} {a : Nat × Nat} (h : Of1 x a) : RtP (x, x) := by
 have p := pl_fin h.2.1
 exact RtP.mk h.1 h.1 (Int.le_refl _) (by simp only; omega) (by simp only; omega)
theorem Of1.wt {x : Nat} {a : Nat × Nat} (h : Of1 x a) : Wt (x, x) a := ⟨h.2.2.1, h.2.2.2⟩
theorem lsF_me (a : Nat) : lsF a a = a := by unfold lsF; split <;> rfl
theorem grF_me (a : Nat) : grF a a = a := by unfold grF; split <;> rfl
theorem muP_one (x y : Nat) : muP (x, x) (y, y) = (tB 1 x y, tB 2 x y) := by unfold muP lsC grC; simp only [lsF_me, grF_me]
theorem diP_one (x y : Nat) : diP (x, x) (y, y) = (oB 1 x y, oB 2 x y) := by unfold diP lsC grC; simp only [lsF_me, grF_me]
theorem hold_mul {a b : Nat × Nat} {x y : Nat} (ha : RtP a) (hb : RtP b) (hx : Of1 x a) (hy : Of1 y b) : HoX (muP a b) (vI x * vI y) := by
 have h := mul_exact hx.1 hy.1 hx.2.1 hy.2.1
 rw [← muP_one] at h
 exact ho_wider (muP_rt hx.rt hy.rt) (muP_wt hx.rt hy.rt ha hb hx.wt hy.wt) h
def DvX (p : Nat × Nat) (x y : Nat) : Prop :=
 (sgn y = false → (finB p.1 = true → vI p.1 * vI y ≤ vI x * 2 ^ twP) ∧ (finB p.2 = true → vI x * 2 ^ twP ≤ vI p.2 * vI y)) ∧
 (sgn y = true → (finB p.1 = true → vI x * 2 ^ twP ≤ vI p.1 * vI y) ∧ (finB p.2 = true → vI p.2 * vI y ≤ vI x * 2 ^ twP))
theorem vI_cs (x : Nat) : (sgn x = false → vI x = (val (rung x) : Int)) ∧ (sgn x = true → vI x = -(val (rung x) : Int)) := by
 unfold vI
 constructor <;> intro h <;> rw [h] <;> rfl
theorem div_exact {x y : Nat} (hx : Fn x) (hy : Fn y) (fx : finB x = true) (fy : finB y = true) (y0 : rung y ≠ 0) : DvX (oB 1 x y, oB 2 x y) x y := by
 have pc := pwc5
 unfold DvX
 simp only
 rw [oB_fin 1 fy, oB_fin 2 fy, ← pc]
 by_cases x0 : rung x = 0
 ·obtain ⟨v, hv⟩ := Option.isSome_iff_exists.1 (oB_ok hx hy fy y0)
  have s : someB x = false := by unfold someB; rw [x0]; simp
  have g : ∀ m, divB m x y = v := fun m => by unfold divB; rw [s, hv]; rfl
  have z := vIn5 (quo_zero_place hx hy fy x0 y0 hv)
  rw [g, g, z, vIn5 (zero_place x0)]
  simp
 ·have sx : someB x = true := by unfold someB; rw [fx]; simpa using x0
  have sy : someB y = true := by unfold someB; rw [fy]; simpa using y0
  have e : ∀ m, divB m x y = stepF (kQ x y) (kS x y) m := fun m => by unfold divB; rw [sx, sy]; rfl
  obtain ⟨hf, ht⟩ := told_val (div_told hx.1 hy.1 sx sy)
  rw [e, e]
  try dsimp only at hf ht
  generalize stepF (kQ x y) (kS x y) 1 = l at *
  generalize stepF (kQ x y) (kS x y) 2 = h at *
  generalize (2 : Nat) ^ twP = c at *
  have cx := vI_cs x
  have cy := vI_cs y
  generalize val (rung x) = X at *
  generalize val (rung y) = Y at *
  generalize vI x = vx at *
  generalize vI y = vy at *
  have mc : ∀ a b : Nat, (a : Int) * (b : Int) = ((a * b : Nat) : Int) := fun a b => by simp
  have nn : ∀ a b : Nat, -(a : Int) * -(b : Int) = ((a * b : Nat) : Int) := fun a b => by rw [Int.neg_mul_neg]; simp
  have np : ∀ a b : Nat, -(a : Int) * (b : Int) = -((a * b : Nat) : Int) := fun a b => by rw [Int.neg_mul]; simp
  have pn : ∀ a b : Nat, (a : Int) * -(b : Int) = -((a * b : Nat) : Int) := fun a b => by rw [Int.mul_neg]; simp
  cases s1 : sgn x <;> cases s2 : sgn y <;> rw [s1, s2] at hf ht
  ·obtain ⟨⟨v1, _, a1⟩, v2, _, a2⟩ := hf rfl
   rw [cx.1 s1, cy.1 s2, v1, v2]
   refine ⟨fun _ => ⟨fun _ => ?_, fun q => ?_⟩, fun q => by cases q⟩
   ·rw [mc, mc]; exact_mod_cast a1
   ·have := a2 q; rw [mc, mc]; exact_mod_cast this
  ·obtain ⟨⟨v1, _, a1⟩, v2, _, a2⟩ := ht rfl
   rw [cx.1 s1, cy.2 s2, v1, v2]
   refine ⟨fun q => (by cases q), fun _ => ⟨fun q => ?_, fun _ => ?_⟩⟩
   ·have := a1 q; rw [nn, mc]; exact_mod_cast this
   ·rw [nn, mc]; exact_mod_cast a2
  ·obtain ⟨⟨v1, _, a1⟩, v2, _, a2⟩ := ht rfl
   rw [cx.2 s1, cy.1 s2, v1, v2]
   refine ⟨fun _ => ⟨fun q => ?_, fun _ => ?_⟩, fun q => by cases q⟩
   ·have := a1 q; rw [np, np]; omega
   ·rw [np, np]; omega
  ·obtain ⟨⟨v1, _, a1⟩, v2, _, a2⟩ := hf rfl
   rw [cx.2 s1, cy.2 s2, v1, v2]
   refine ⟨fun q => (by cases q), fun _ => ⟨fun _ => ?_, fun q => ?_⟩⟩
   ·rw [np, pn]; omega
   ·have := a2 q; rw [np, pn]; omega
theorem dv_wider {p q : Nat × Nat} {x y : Nat} (hq : RtP q) (w : Wt q p) (h : DvX q x y) : DvX p x y := by
 obtain ⟨w1, w2⟩ := w
 obtain ⟨q1, q2, q3⟩ := hq.pl
 have cy := vI_cs y
 have k1 : finB p.1 = true → finB q.1 = true := fun f => by
  have pf := pl_fin f
  exact fin_mid hq.fn.1 q2 (by omega)
 have k2 : finB p.2 = true → finB q.2 = true := fun f => by
  have pf := pl_fin f
  exact fin_mid hq.fn.2 (by omega) q3
 constructor
 ·intro s
  have y0 : 0 ≤ vI y := by rw [cy.1 s]; omega
  exact ⟨fun f => Int.le_trans (Int.mul_le_mul_of_nonneg_right (vI_le_of w1) y0) ((h.1 s).1 (k1 f)), fun f => Int.le_trans ((h.1 s).2 (k2 f)) (Int.mul_le_mul_of_nonneg_right (vI_le_of w2) y0)⟩
 ·intro s
  have y0 : vI y ≤ 0 := by rw [cy.2 s]; omega
  exact ⟨fun f => Int.le_trans ((h.2 s).1 (k1 f)) (Int.mul_le_mul_of_nonpos_right (vI_le_of w1) y0), fun f => Int.le_trans (Int.mul_le_mul_of_nonpos_right (vI_le_of w2) y0) ((h.2 s).2 (k2 f))⟩
theorem in_side {y : Nat} {b : Nat × Nat} (n : No0 b) (hy : Of1 y b) : rung y ≠ 0 ∧ sgn y = sgn b.1 := by
 obtain ⟨c0, d0, sd⟩ := n
 obtain ⟨_, _, q1, q2⟩ := hy
 unfold place at q1 q2
 rw [← sd] at q2
 cases s1 : sgn b.1 <;> cases s2 : sgn y <;> rw [s1, s2] at q1 q2 <;> simp only [if_true, Bool.false_eq_true, if_false] at q1 q2
 ·exact ⟨by omega, rfl⟩
 ·omega
 ·omega
 ·exact ⟨by omega, rfl⟩
theorem hold_div {a b : Nat × Nat} {x y : Nat} (ha : RtP a) (hb : RtP b) (n : No0 b) (hx : Of1 x a) (hy : Of1 y b) : DvX (diP a b) x y := by
 obtain ⟨y0, sy⟩ := in_side n hy
 have h := div_exact hx.1 hy.1 hx.2.1 hy.2.1 y0
 rw [← diP_one] at h
 have ny : No0 (y, y) := ⟨y0, y0, rfl⟩
 exact dv_wider (diP_rt hx.rt hy.rt ny) (diP_wt hx.rt hy.rt ha hb hx.wt hy.wt n ny) h
def RoX (p : Nat × Nat) (x : Nat) : Prop := vI p.1 * vI p.1 ≤ vI x * 2 ^ twP ∧ (finB p.2 = true → vI x * 2 ^ twP ≤ vI p.2 * vI p.2)
theorem vI_pos {x : Nat} (h : 0 ≤ place x) : 0 ≤ vI x := by
 have e := vI_le_of (x := 0) (y := x) (by rw [show place 0 = 0 from rfl]; exact h)
 rw [vIn5 (v := 0) rfl] at e
 exact e
theorem root_exact {x : Nat} (hx : Fn x) (fx : finB x = true) (p0 : 0 ≤ place x) : RoX (sqB 1 x, sqB 2 x) x := by
 have pc := pwc5
 unfold RoX
 simp only
 rw [← pc]
 by_cases z : place x = 0
 ·have e1 := (sqO_facts 1 hx (sqO_some 1 (root_ok hx p0))).2.2.2.1 z
  have e2 := (sqO_facts 2 hx (sqO_some 2 (root_ok hx p0))).2.2.2.1 z
  rw [vIn5 e1, vIn5 e2, vIn5 z]
  simp
 ·have r0 : rung x ≠ 0 := fun e => z (zero_place e)
  have s0 : sgn x = false := pos_sgn (by omega)
  have sx : someB x = true := by unfold someB; rw [fx]; simpa using r0
  have e : ∀ m, sqB m x = stepF (tQ x) (tS x) m := fun m => by unfold sqB; rw [sx, s0]; rfl
  obtain ⟨⟨v1, _, a1⟩, v2, _, a2⟩ := (told_val (sqrt_told hx.1 sx s0)).1 rfl
  rw [e, e, v1, v2, (vI_cs x).1 s0]
  try dsimp only at a1 a2
  generalize stepF (tQ x) (tS x) 1 = l at *
  generalize stepF (tQ x) (tS x) 2 = h at *
  generalize (2 : Nat) ^ twP = c at *
  have mc : ∀ a b : Nat, (a : Int) * (b : Int) = ((a * b : Nat) : Int) := fun a b => by simp
  refine ⟨?_, fun q => ?_⟩
  ·rw [mc, mc]; exact_mod_cast a1
  ·have := a2 q; rw [mc, mc]; exact_mod_cast this
theorem hold_root {a : Nat × Nat} {x : Nat} (ha : RtP a) (a0 : 0 ≤ place a.1) (hx : Of1 x a) : RoX (sqP a) x ∧ finB (sqP a).1 = true ∧ 0 ≤ place (sqP a).1 := by
 have x0 : 0 ≤ place x := Int.le_trans a0 hx.2.2.1
 have h := root_exact hx.1 hx.2.1 x0
 have rt := sqP_rt ha a0
 have rx := sqP_rt hx.rt x0
 obtain ⟨w1, w2⟩ := sqP_wt hx.rt ha hx.wt a0
 have l0 := (sqO_facts 1 ha.fn.1 (sqO_some 1 (root_ok ha.fn.1 a0))).2.1
 have l0' : 0 ≤ place (sqP a).1 := l0
 have u0 := (sqO_facts 2 hx.1 (sqO_some 2 (root_ok hx.1 x0))).2.1
 have u0' : 0 ≤ place (sqP (x, x)).2 := u0
 have q2 := rt.pl.2.1
 refine ⟨⟨?_, fun f => ?_⟩, fin_mid rt.fn.1 q2 (by omega), l0'⟩
 ·have k := vI_le_of w1
  have k0 := vI_pos l0'
  exact Int.le_trans (Int.mul_le_mul k k k0 (Int.le_trans k0 k)) h.1
 ·have pf := pl_fin f
  have fq : finB (sqP (x, x)).2 = true := fin_mid rx.fn.2 (by omega) rx.pl.2.2
  have k := vI_le_of w2
  have k0 := vI_pos u0'
  exact Int.le_trans (h.2 fq) (Int.mul_le_mul k k k0 (Int.le_trans k0 k))
def RtQ (c : Nat) (p : Nat × Nat) (N D : Nat) : Prop := val (rung p.1) * val (rung p.1) * D ≤ N * (c * c) ∧ N * (c * c) ≤ val (rung p.2) * val (rung p.2) * D
theorem q_mul_lo {l a b c D E N M : Nat} (c0 : 0 < c) (h : l * c ≤ a * b) (h1 : a * a * D ≤ N * (c * c)) (h2 : b * b * E ≤ M * (c * c)) : l * l * (D * E) ≤ N * M * (c * c) := by
 refine Nat.le_of_mul_le_mul_right (c := c * c) ?_ (Nat.mul_pos c0 c0)
 calc l * l * (D * E) * (c * c) = (l * c) * (l * c) * (D * E) := by ac_rfl
  _ ≤ (a * b) * (a * b) * (D * E) := Nat.mul_le_mul_right _ (Nat.mul_le_mul h h)
  _ = (a * a * D) * (b * b * E) := by ac_rfl
  _ ≤ (N * (c * c)) * (M * (c * c)) := Nat.mul_le_mul h1 h2
  _ = N * M * (c * c) * (c * c) := by ac_rfl
theorem q_mul_hi {u a b c D E N M : Nat} (c0 : 0 < c) (h : a * b ≤ u * c) (h1 : N * (c * c) ≤ a * a * D) (h2 : M * (c * c) ≤ b * b * E) : N * M * (c * c) ≤ u * u * (D * E) := by
 refine Nat.le_of_mul_le_mul_right (c := c * c) ?_ (Nat.mul_pos c0 c0)
 calc N * M * (c * c) * (c * c) = (N * (c * c)) * (M * (c * c)) := by ac_rfl
  _ ≤ (a * a * D) * (b * b * E) := Nat.mul_le_mul h1 h2
  _ = (a * b) * (a * b) * (D * E) := by ac_rfl
  _ ≤ (u * c) * (u * c) * (D * E) := Nat.mul_le_mul_right _ (Nat.mul_le_mul h h)
  _ = u * u * (D * E) * (c * c) := by ac_rfl
theorem q_div_lo {l a b c D E N M : Nat} (c0 : 0 < c) (h : l * b ≤ a * c) (h1 : a * a * D ≤ N * (c * c)) (h2 : M * (c * c) ≤ b * b * E) : l * l * (D * M) ≤ N * E * (c * c) := by
 refine Nat.le_of_mul_le_mul_right (c := c * c) ?_ (Nat.mul_pos c0 c0)
 calc l * l * (D * M) * (c * c) = l * l * D * (M * (c * c)) := by ac_rfl
  _ ≤ l * l * D * (b * b * E) := Nat.mul_le_mul_left _ h2
  _ = (l * b) * (l * b) * (D * E) := by ac_rfl
  _ ≤ (a * c) * (a * c) * (D * E) := Nat.mul_le_mul_right _ (Nat.mul_le_mul h h)
  _ = (a * a * D) * (c * c * E) := by ac_rfl
  _ ≤ (N * (c * c)) * (c * c * E) := Nat.mul_le_mul_right _ h1
  _ = N * E * (c * c) * (c * c) := by ac_rfl
theorem q_div_hi {u a b c D E N M : Nat} (c0 : 0 < c) (h : a * c ≤ u * b) (h1 : N * (c * c) ≤ a * a * D) (h2 : b * b * E ≤ M * (c * c)) : N * E * (c * c) ≤ u * u * (D * M) := by
 refine Nat.le_of_mul_le_mul_right (c := c * c) ?_ (Nat.mul_pos c0 c0)
 calc N * E * (c * c) * (c * c) = (N * (c * c)) * (c * c * E) := by ac_rfl
  _ ≤ (a * a * D) * (c * c * E) := Nat.mul_le_mul_right _ h1
  _ = (a * c) * (a * c) * (D * E) := by ac_rfl
  _ ≤ (u * b) * (u * b) * (D * E) := Nat.mul_le_mul_right _ (Nat.mul_le_mul h h)
  _ = u * u * D * (b * b * E) := by ac_rfl
  _ ≤ u * u * D * (M * (c * c)) := Nat.mul_le_mul_left _ h2
  _ = u * u * (D * M) * (c * c) := by ac_rfl
theorem pos_vI {x : Nat} (h : Fn x) (h0 : 0 < place x) (h1 : place x < 9218868437227405312) : finB x = true ∧ sgn x = false ∧ vI x = (val (rung x) : Int) := by
 obtain ⟨a, _, s, _⟩ := pos_facts h h0 h1
 exact ⟨a, s, (vI_cs x).1 s⟩
theorem PosK.v {p : Nat × Nat} (k : PosK p) : (finB p.1 = true ∧ sgn p.1 = false ∧ vI p.1 = (val (rung p.1) : Int)) ∧ (finB p.2 = true ∧ sgn p.2 = false ∧ vI p.2 = (val (rung p.2) : Int)) :=
 ⟨pos_vI k.rt.fn.1 k.ends.1.1 k.ends.1.2, pos_vI k.rt.fn.2 k.ends.2.1 k.ends.2.2⟩
theorem PosK.of1 {p : Nat × Nat} (k : PosK p) : Of1 p.1 p ∧ Of1 p.2 p :=
 ⟨⟨k.rt.fn.1, k.v.1.1, Int.le_refl _, k.rt.pl.1⟩, ⟨k.rt.fn.2, k.v.2.1, k.rt.pl.1, Int.le_refl _⟩⟩
def cU : Nat := 2 ^ twP
theorem cU_pos : 0 < cU := Nat.two_pow_pos _
theorem cU_int : (2 : Int) ^ twP = (cU : Int) := pwc5.symm
theorem rtq_mul {a b : Nat × Nat} {N D M E : Nat} (ka : PosK a) (kb : PosK b) (km : PosK (muP a b)) (ha : RtQ cU a N D) (hb : RtQ cU b M E) : RtQ cU (muP a b) (N * M) (D * E) := by
 have h1 := (hold_mul ka.rt kb.rt ka.of1.1 kb.of1.1).1 km.v.1.1
 have h2 := (hold_mul ka.rt kb.rt ka.of1.2 kb.of1.2).2 km.v.2.1
 rw [km.v.1.2.2, ka.v.1.2.2, kb.v.1.2.2, cU_int] at h1
 rw [km.v.2.2.2, ka.v.2.2.2, kb.v.2.2.2, cU_int] at h2
 exact ⟨q_mul_lo cU_pos (by exact_mod_cast h1) ha.1 hb.1, q_mul_hi cU_pos (by exact_mod_cast h2) ha.2 hb.2⟩
theorem rtq_div {a b : Nat × Nat} {N D M E : Nat} (ka : PosK a) (kb : PosK b) (km : PosK (diP a b)) (ha : RtQ cU a N D) (hb : RtQ cU b M E) : RtQ cU (diP a b) (N * E) (D * M) := by
 have h1 := ((hold_div ka.rt kb.rt kb.no0 ka.of1.1 kb.of1.2).1 kb.v.2.2.1).1 km.v.1.1
 have h2 := ((hold_div ka.rt kb.rt kb.no0 ka.of1.2 kb.of1.1).1 kb.v.1.2.1).2 km.v.2.1
 rw [km.v.1.2.2, ka.v.1.2.2, kb.v.2.2.2, cU_int] at h1
 rw [km.v.2.2.2, ka.v.2.2.2, kb.v.1.2.2, cU_int] at h2
 exact ⟨q_div_lo cU_pos (by exact_mod_cast h1) ha.1 hb.2, q_div_hi cU_pos (by exact_mod_cast h2) ha.2 hb.1⟩
theorem rtq_one (x c : Nat) : RtQ c (x, x) (val (rung x) * val (rung x)) (c * c) := ⟨Nat.le_refl _, Nat.le_refl _⟩
theorem rtq_int {x c n : Nat} (h : val (rung x) = n * c) : RtQ c (x, x) (n * n) 1 := by
 unfold RtQ
 simp only [h]
 have e : n * c * (n * c) * 1 = n * n * (c * c) := by rw [Nat.mul_one]; ac_rfl
 exact ⟨Nat.le_of_eq e, Nat.le_of_eq e.symm⟩
theorem rtq_root {x n : Nat} (k : PosK (x, x)) (kr : PosK (sqP (x, x))) (h : val (rung x) = n * cU) : RtQ cU (sqP (x, x)) n 1 := by
 have h0 := (hold_root k.rt (Int.le_of_lt k.lo) k.of1.1).1
 have h1 := h0.1
 have h2 := h0.2 kr.v.2.1
 rw [kr.v.1.2.2, k.v.1.2.2, h, cU_int] at h1
 rw [kr.v.2.2.2, k.v.1.2.2, h, cU_int] at h2
 have g1 : val (rung (sqP (x, x)).1) * val (rung (sqP (x, x)).1) ≤ n * cU * cU := by exact_mod_cast h1
 have g2 : n * cU * cU ≤ val (rung (sqP (x, x)).2) * val (rung (sqP (x, x)).2) := by exact_mod_cast h2
 exact ⟨by rw [Nat.mul_one, ← Nat.mul_assoc]; exact g1, by rw [Nat.mul_one, ← Nat.mul_assoc]; exact g2⟩
def ovN (m : Mb) (k : Nat) : Nat :=
 if k = 1 then (val (rung m.e) * val (rung m.ar)) * (val (rung m.e) * val (rung m.ar))
 else if k = 3 then (val (rung m.e) * val (rung m.i)) * (val (rung m.e) * val (rung m.i))
 else 9 * (val (rung m.e) * val (rung m.i)) * (val (rung m.e) * val (rung m.i))
def unN (l k : Nat) : Nat := if k = 1 then l * l * l else if k = 3 then l else l * l * l * l * l
structure TrueS (m : Mb) (l : Nat) (s : Sg) : Prop where
 pos : PosK s.a.1
 hi : place s.a.1.2 ≤ 5154369773525532672
 nr : Wt (s.a.2, s.a.2) s.a.1
 fn : Fn s.a.2
 lo : val (rung s.a.1.1) * val (rung s.a.1.1) * unN l s.k * (cU * cU) ≤ ovN m s.k
 up : ovN m s.k ≤ val (rung s.a.1.2) * val (rung s.a.1.2) * unN l s.k * (cU * cU)
theorem lo_cut {x c U V : Nat} (c0 : 0 < c) {D N : Nat} (h : x * x * D ≤ N * (c * c)) (eD : D = (c * c) * (c * c) * U) (eN : N = V) : x * x * U * (c * c) ≤ V := by
 refine Nat.le_of_mul_le_mul_right (c := c * c) ?_ (Nat.mul_pos c0 c0)
 subst eN
 rw [eD] at h
 calc x * x * U * (c * c) * (c * c) = x * x * ((c * c) * (c * c) * U) := by ac_rfl
  _ ≤ _ := h
theorem hi_cut {x c U V : Nat} (c0 : 0 < c) {D N : Nat} (h : N * (c * c) ≤ x * x * D) (eD : D = (c * c) * (c * c) * U) (eN : N = V) : V ≤ x * x * U * (c * c) := by
 refine Nat.le_of_mul_le_mul_right (c := c * c) ?_ (Nat.mul_pos c0 c0)
 subst eN
 rw [eD] at h
 calc N * (c * c) ≤ _ := h
  _ = x * x * U * (c * c) * (c * c) := by ac_rfl
theorem true_mk {m : Mb} {l : Nat} {s : Sg} {K : Nat × Nat} {N D : Nat} (h : Amt s.a K) (k : PosK K) (hK : place K.2 ≤ 5154369773525532672) (q : RtQ cU s.a.1 N D) (eD : D = (cU * cU) * (cU * cU) * unN l s.k) (eN : N = ovN m s.k) : TrueS m l s :=
 ⟨h.pos k, Int.le_trans h.kw.2 hK, h.nr, h.fn, lo_cut cU_pos q.1 eD eN, hi_cut cU_pos q.2 eD eN⟩
theorem eN_ax (m : Mb) : val (rung m.e) * val (rung m.e) * (val (rung m.ar) * val (rung m.ar)) * (1 * 1) = ovN m 1 := by
 unfold ovN
 rw [if_pos rfl]
 generalize val (rung m.e) = a
 generalize val (rung m.ar) = b
 simp only [Nat.mul_one]
 ac_rfl
theorem eN_en (m : Mb) : val (rung m.e) * val (rung m.e) * (val (rung m.i) * val (rung m.i)) * 1 = ovN m 3 := by
 unfold ovN
 rw [if_neg (by decide), if_pos rfl]
 generalize val (rung m.e) = a
 generalize val (rung m.i) = b
 simp only [Nat.mul_one]
 ac_rfl
theorem eN_ac (m : Mb) {k : Nat} (h : k = 2 ∨ k = 4) : 3 * 3 * (val (rung m.e) * val (rung m.e) * (val (rung m.i) * val (rung m.i))) * (1 * 1 * 1) = ovN m k := by
 unfold ovN
 rw [if_neg (by omega), if_neg (by omega)]
 generalize val (rung m.e) = a
 generalize val (rung m.i) = b
 simp only [Nat.mul_one, Nat.reduceMul]
 ac_rfl
theorem eD_ax (c n : Nat) : c * (n * n * n) = c * unN n 1 := by unfold unN; rw [if_pos rfl]
theorem eD_en (c n : Nat) : c * n = c * unN n 3 := by unfold unN; rw [if_neg (by decide), if_pos rfl]
theorem eD_ac (c n : Nat) {k : Nat} (h : k = 2 ∨ k = 4) : 1 * c * (n * n * (n * n) * n) = c * unN n k := by
 unfold unN
 rw [if_neg (by omega), if_neg (by omega), Nat.one_mul]
 ac_rfl
theorem rung_fin {k : Nat} (hk : k < 9218868437227405312) : rung k = k := by unfold rung; omega
theorem cU_is {E : Nat} (hE : E = 1074) : cU = 2 ^ E := by
 unfold cU
 rw [show twP = E from hE.symm]
theorem val_three {E : Nat} (hE : E = 1074) : val (rung 4613937818241073152) = 3 * 2 ^ E := by
 subst hE
 kernel_rfl
theorem spK_true {E : Nat} (hE : E = 1074) (m : Mb) (hm : MW m) (p q : Jn) (hl : (aptA p q).2.2 ≠ 0) (he : nbB m.e = true) (ha : nbB m.ar = true) (hi : m.kd ≠ 1 → nbB m.i = true) :
  ∀ s ∈ spK m p q, TrueS m (aptA p q).2.2.natAbs s := by
 obtain ⟨aS, aL, fS, lS⟩ := amt_len rfl p q hl
 obtain ⟨k, q1, q2, q3⟩ := l2F_facts hE p q
 have vS : val (rung (l2F p q)) = (aptA p q).2.2.natAbs * cU := by
  rw [q2, rung_fin q1, q3, cU_is hE]
 have aE := amt_num hm.e he
 have aA := amt_num hm.ar ha
 have eR : (aR (l2F p q)).1 = sqP (l2F p q, l2F p q) := rfl
 have pS := aS.pos pos_kSq
 have pL := aL.pos pos_kLn
 have qS := rtq_int (c := cU) vS
 have qL : RtQ cU (aR (l2F p q)).1 (aptA p q).2.2.natAbs 1 := by rw [eR]; exact rtq_root pS (by rw [← eR]; exact pL) vS
 have qE := rtq_one m.e cU
 have qA := rtq_one m.ar cU
 obtain ⟨hP, _⟩ := amt_mul aE aA pos_k60 pos_k60 is_kP
 obtain ⟨hSL, _⟩ := amt_mul aS aL pos_kSq pos_kLn is_kSL
 obtain ⟨hAX, _⟩ := amt_div hP hSL pos_kP pos_kSL is_kAx
 have qP := rtq_mul (aE.pos pos_k60) (aA.pos pos_k60) (hP.pos pos_kP) qE qA
 have qSL := rtq_mul pS pL (hSL.pos pos_kSL) qS qL
 have qAX := rtq_div (hP.pos pos_kP) (hSL.pos pos_kSL) (hAX.pos pos_kAx) qP qSL
 have TA : ∀ r, TrueS m (aptA p q).2.2.natAbs ⟨0, 1, r, axA (aR (l2F p q)) (l2F p q) m.e m.ar⟩ := fun r =>
  true_mk hAX pos_kAx (by decide) qAX (eD_ax _ _) (eN_ax m)
 by_cases hk : m.kd = 1 ∨ (m.ha = true ∧ m.hb = true)
 ·intro s hs
  have e : spK m p q = [⟨0, 1, ⟨-(aptA p q).1, -(aptA p q).2.1, 0, (aptA p q).1, (aptA p q).2.1, 0⟩, axA (aR (l2F p q)) (l2F p q) m.e m.ar⟩] := by unfold spK; rw [if_pos hk]
  rw [e] at hs
  obtain rfl := List.mem_singleton.1 hs
  exact TA _
 ·have aI := amt_num hm.i (hi fun h => hk (Or.inl h))
  have qI := rtq_one m.i cU
  have a3 : Amt (aX 4613937818241073152) k3 := amt_one (by constructor <;> decide) (by decide) (by decide) (by decide) (by decide)
  have v3 : val (rung 4613937818241073152) = 3 * cU := (val_three hE).trans (by rw [cU_is hE])
  have q3' := rtq_int (c := cU) v3
  obtain ⟨hI, _⟩ := amt_mul aE aI pos_k60 pos_k60 is_kP
  obtain ⟨h3I, _⟩ := amt_mul a3 hI pos_k3 pos_kP is_kB3
  obtain ⟨hSS, _⟩ := amt_mul aS aS pos_kSq pos_kSq is_kSS
  obtain ⟨hSSL, _⟩ := amt_mul hSS aL pos_kSS pos_kLn is_kSSL
  obtain ⟨hAC, _⟩ := amt_div h3I hSSL pos_kB3 pos_kSSL is_kAc
  obtain ⟨hEN, _⟩ := amt_div hI aL pos_kP pos_kLn is_kEn
  have qIE := rtq_mul (aE.pos pos_k60) (aI.pos pos_k60) (hI.pos pos_kP) qE qI
  have q3I := rtq_mul (a3.pos pos_k3) (hI.pos pos_kP) (h3I.pos pos_kB3) q3' qIE
  have qSS := rtq_mul pS pS (hSS.pos pos_kSS) qS qS
  have qSSL := rtq_mul (hSS.pos pos_kSS) pL (hSSL.pos pos_kSSL) qSS qL
  have qAC := rtq_div (h3I.pos pos_kB3) (hSSL.pos pos_kSSL) (hAC.pos pos_kAc) q3I qSSL
  have qEN := rtq_div (hI.pos pos_kP) pL (hEN.pos pos_kEn) qIE qL
  have TC : ∀ kk r, (kk = 2 ∨ kk = 4) → TrueS m (aptA p q).2.2.natAbs ⟨0, kk, r, acA (aR (l2F p q)) (l2F p q) m.e m.i⟩ := fun kk r h =>
   true_mk hAC pos_kAc (by decide) qAC (eD_ac _ _ h) (eN_ac m h)
  have TE : ∀ r, TrueS m (aptA p q).2.2.natAbs ⟨0, 3, r, enA (aR (l2F p q)) m.e m.i⟩ := fun r =>
   true_mk hEN pos_kEn (by decide) qEN (eD_en _ _) (eN_en m)
  intro s hs
  unfold spK at hs
  simp only at hs
  rw [if_neg hk] at hs
  split at hs
  ·rcases List.mem_cons.1 hs with rfl | hs
   ·exact TA _
   ·obtain rfl := List.mem_singleton.1 hs
    exact TC 4 _ (Or.inr rfl)
  ·split at hs
   ·rcases List.mem_cons.1 hs with rfl | hs
    ·exact TA _
    ·obtain rfl := List.mem_singleton.1 hs
     exact TC 4 _ (Or.inr rfl)
   ·rcases List.mem_cons.1 hs with rfl | hs
    ·exact TA _
    ·rcases List.mem_cons.1 hs with rfl | hs
     ·exact TC 2 _ (Or.inl rfl)
     ·obtain rfl := List.mem_singleton.1 hs
      exact TE _
theorem nuY_float {E x : Nat} (hE : E = 1074) (hf : finB x = true) (hs : sgn x = false) : NuY (fY x) E (val (rung x)) := by
 by_cases h0 : rung x = 0
 ·refine ⟨hs, ?_, ?_⟩
  ·unfold fY spE
   simp only [if_pos h0]
   omega
  ·have e : spF x = 0 := by unfold spF; rw [if_pos h0]
   simp only [fY, vl_lo, e, h0, Nat.zero_mul]
   rfl
 ·obtain ⟨h1, h2, h3⟩ := sp_parts h0
  obtain ⟨_, _, _, h4, _, _⟩ := sp_bd hf h0
  refine ⟨hs, by simp only [fY]; omega, ?_⟩
  simp only [fY, vl_lo]
  rw [← mg_up, ← h1, h3, show ((up (rung x) : Int) - 1074 + (spZ x : Int) + (E : Int)).toNat = spZ x + up (rung x) by omega, Nat.pow_add]
  ac_rfl
theorem szY_float {x : Nat} (hf : finB x = true) : SzD (fY x) 1 1100 := by
 have b : spF x < 18446744073709551616 ∧ -1074 ≤ spE x ∧ spE x ≤ 1023 := by
  by_cases h0 : rung x = 0
  ·unfold spF spE; rw [if_pos h0, if_pos h0]; omega
  ·have := sp_bd hf h0; omega
 exact ⟨lo_lm _, by simp only [fY, lo_length]; exact nl_le (by omega), by simp only [fY]; omega, by simp only [fY]; omega⟩
def wY (n : Nat) : Dy := ⟨decide ((n : Int) < 0), lo (n : Int).natAbs, 0⟩
theorem nuY_whole (n : Nat) : NuY (wY n) 0 n := NuY.whole n
theorem szY_whole {n : Nat} (h : n < 18446744073709551616) : SzD (wY n) 1 0 :=
 ⟨lo_lm _, by simp only [wY, lo_length]; exact nl_le (by simpa using h), by simp [wY], by simp [wY]⟩
theorem NuY.cast {d : Dy} {k V k' V' : Nat} (h : NuY d k V) (hk : k = k') (hv : V = V') : NuY d k' V' := by subst hk hv; exact h
theorem nuY_two {x y : Dy} {k A m B : Nat} (h : NuY x k A) (g : NuY y m B) : NuY (prodD [x, y]) (k + m) (A * B) :=
 ((NuY.one.mul h).mul g).cast (by omega) (by rw [Nat.one_mul])
theorem nuY_three {x y z : Dy} {k A m B n C : Nat} (h : NuY x k A) (g : NuY y m B) (f : NuY z n C) : NuY (prodD [x, y, z]) (k + m + n) (A * B * C) :=
 (((NuY.one.mul h).mul g).mul f).cast (by omega) (by rw [Nat.one_mul])
theorem nuY_five {x : Dy} {A : Nat} (h : NuY x 0 A) : NuY (prodD [x, x, x, x, x]) 0 (A * A * A * A * A) :=
 (((((NuY.one.mul h).mul h).mul h).mul h).mul h).cast (by omega) (by rw [Nat.one_mul])
theorem nuY_qd {d : Dy} {k V : Nat} (h : NuY d k V) (hk : k ≤ 65536) : qd d = ((V * 2 ^ (65536 - k) : Nat) : Int) := by
 obtain ⟨h1, h2, h3⟩ := h
 have e : (d.exp + 65536).toNat = (d.exp + (k : Int)).toNat + (65536 - k) := by omega
 unfold qd sv
 rw [h1, e, ← h3]
 simp only [Bool.false_eq_true, if_false]
 rw [Int.pow_add]
 generalize 65536 - k = t
 simp [Int.mul_assoc]
theorem sgI_leY {a b : Int} (h : a ≤ b) : ¬ 0 < sgI (a - b) := by unfold sgI; split <;> (try split) <;> omega
theorem nuY_le {x y : Dy} {k A B : Nat} (hx : NuY x k A) (hy : NuY y k B) (hk : k ≤ 65536) (h : A ≤ B) : ¬ 0 < sgI (qd x - qd y) := by
 rw [nuY_qd hx hk, nuY_qd hy hk]
 exact sgI_leY (Int.ofNat_le.2 (Nat.mul_le_mul_right _ h))
def ovD (m : Mb) (k : Nat) : Dy := if k = 1 then prodD [prodD [fY m.e, fY m.ar], prodD [fY m.e, fY m.ar]] else if k = 3 then prodD [prodD [fY m.e, fY m.i], prodD [fY m.e, fY m.i]] else prodD [wY 9, prodD [fY m.e, fY m.i], prodD [fY m.e, fY m.i]]
def unD (n k : Nat) : Dy := if k = 1 then prodD [wY n, wY n, wY n] else if k = 3 then wY n else prodD [wY n, wY n, wY n, wY n, wY n]
theorem sz_two {x y : Dy} {n : Nat} {e : Int} (hx : SzD x n e) (hy : SzD y n e) : ∀ d ∈ [x, y], SzD d n e := by
 intro d hd
 rcases List.mem_cons.1 hd with rfl | hd
 ·exact hx
 ·obtain rfl := List.mem_singleton.1 hd
  exact hy
theorem sz_three {x y z : Dy} {n : Nat} {e : Int} (hx : SzD x n e) (hy : SzD y n e) (hz : SzD z n e) : ∀ d ∈ [x, y, z], SzD d n e := by
 intro d hd
 rcases List.mem_cons.1 hd with rfl | hd
 ·exact hx
 ·exact sz_two hy hz d hd
theorem sz_five {x : Dy} {n : Nat} {e : Int} (hx : SzD x n e) : ∀ d ∈ [x, x, x, x, x], SzD d n e := by
 intro d hd
 simp at hd
 subst hd
 exact hx
theorem pz_two {x y : Dy} {n : Nat} {e : Int} (hx : SzD x n e) (hy : SzD y n e) : SzD (prodD [x, y]) (1 + 2 * n) (2 * e) := (prod_sz (sz_two hx hy)).mono (by simp) (by simp)
theorem pz_three {x y z : Dy} {n : Nat} {e : Int} (hx : SzD x n e) (hy : SzD y n e) (hz : SzD z n e) : SzD (prodD [x, y, z]) (1 + 3 * n) (3 * e) := (prod_sz (sz_three hx hy hz)).mono (by simp) (by simp)
theorem pz_five {x : Dy} {n : Nat} {e : Int} (hx : SzD x n e) : SzD (prodD [x, x, x, x, x]) (1 + 5 * n) (5 * e) := (prod_sz (sz_five hx)).mono (by simp) (by simp)
theorem SzD.big {d : Dy} {n : Nat} {e : Int} (h : SzD d n e) (hn : n ≤ 1000 := by omega) (he : e ≤ 20000 := by omega) : SzD d 1000 20000 := h.mono hn he
theorem true2_any (m : Mb) (hm : MW m) (fe : finB m.e = true) (fa : finB m.ar = true) (fi : finB m.i = true) (n : Nat) (hn : n ≤ 9223372036854775807) (k : Nat) (w : World) :
  Calls Tryz.prog 6 #[mV m, .int .i64 (n : Int), .int .u8 k] w (GvY2 w (ovD m k) (unD n k)) := by
 have sE := szY_float fe
 have sA := szY_float fa
 have sI := szY_float fi
 have sL := szY_whole (n := n) (by omega)
 have s9 := szY_whole (n := 9) (by omega)
 have pEI := pz_two sE sI
 have pEA := pz_two sE sA
 refine true2_walk m (n : Int) k (fY m.e) (fY m.i) (fY m.ar) (wY n) (wY 9) w (fun W => exactY_any _ hm.e fe W) (fun W => exactY_any _ hm.i fi W) (fun W => exactY_any _ hm.ar fa W)
  (fun W => (whole_any (n : Int) (by omega) (by omega) W).mono fun e w' h => GaveM.gv h) (fun W => (whole_any 9 (by omega) (by omega) W).mono fun e w' h => GaveM.gv h)
  (fun b W h => timesY_any _ b 2 W h (by simp) (sz_two sE.big sI.big)) (fun b W h => timesY_any _ b 2 W h (by simp) (sz_two sE.big sA.big))
  (fun x hx b W h => timesY_any _ b 2 W h (by simp) ?_)
  (fun b W h => timesY_any _ b 3 W h (by simp) (sz_three sL.big sL.big sL.big)) (fun b W h => timesY_any _ b 5 W h (by simp) (sz_five sL.big))
  (fun b W h => timesY_any _ b 3 W h (by simp) (sz_three s9.big pEI.big pEI.big))
 rcases hx with rfl | rfl
 ·exact sz_two pEI.big pEI.big
 ·exact sz_two pEA.big pEA.big
theorem ovD_nu {E : Nat} (hE : E = 1074) (m : Mb) (fe : finB m.e = true) (fa : finB m.ar = true) (fi : finB m.i = true) (ge : sgn m.e = false) (ga : sgn m.ar = false) (gi : sgn m.i = false) (k : Nat) : NuY (ovD m k) (E + E + (E + E)) (ovN m k) ∧ SzD (ovD m k) 10 6600 := by
 have nE := nuY_float hE fe ge
 have nA := nuY_float hE fa ga
 have nI := nuY_float hE fi gi
 have pEI := pz_two (szY_float fe) (szY_float fi)
 have pEA := pz_two (szY_float fe) (szY_float fa)
 unfold ovD ovN
 by_cases h1 : k = 1
 ·rw [if_pos h1, if_pos h1]
  exact ⟨nuY_two (nuY_two nE nA) (nuY_two nE nA), (pz_two pEA pEA).mono (by omega) (by omega)⟩
 ·rw [if_neg h1, if_neg h1]
  by_cases h3 : k = 3
  ·rw [if_pos h3, if_pos h3]
   exact ⟨nuY_two (nuY_two nE nI) (nuY_two nE nI), (pz_two pEI pEI).mono (by omega) (by omega)⟩
  ·rw [if_neg h3, if_neg h3]
   exact ⟨(nuY_three (nuY_whole 9) (nuY_two nE nI) (nuY_two nE nI)).cast (by omega) rfl, (pz_three ((szY_whole (n := 9) (by omega)).mono (by omega) (by omega)) pEI pEI).mono (by omega) (by omega)⟩
theorem unD_nu {n : Nat} (hn : n < 18446744073709551616) (k : Nat) : NuY (unD n k) 0 (unN n k) ∧ SzD (unD n k) 6 0 := by
 have nL := nuY_whole n
 have sL := szY_whole hn
 unfold unD unN
 by_cases h1 : k = 1
 ·rw [if_pos h1, if_pos h1]
  exact ⟨nuY_three nL nL nL, (pz_three sL sL sL).mono (by omega) (by omega)⟩
 ·rw [if_neg h1, if_neg h1]
  by_cases h3 : k = 3
  ·rw [if_pos h3, if_pos h3]
   exact ⟨nL, sL.mono (by omega) (by omega)⟩
  ·rw [if_neg h3, if_neg h3]
   exact ⟨nuY_five nL, (pz_five sL).mono (by omega) (by omega)⟩
structure SpC (m : Mb) (l2 : Int) (kk sl sh sn : Nat) (OV UN EL EH LO HI : Dy) (g1 g2 : Int) : Prop where
 t2 : ∀ W, Calls Tryz.prog 6 #[mV m, .int .i64 l2, .int .u8 kk] W (GvY2 W OV UN)
 el : ∀ W, Calls Tryz.prog 8 #[.float .f64 sl] W (GvY W EL)
 eh : ∀ W, Calls Tryz.prog 8 #[.float .f64 sh] W (GvY W EH)
 tl : ∀ b W, DRow [EL, EL, UN] W b → Calls Tryz.prog 7 #[.slice (some ⟨b, 0, none⟩) 3 3] W (GvY W LO)
 th : ∀ b W, DRow [EH, EH, UN] W b → Calls Tryz.prog 7 #[.slice (some ⟨b, 0, none⟩) 3 3] W (GvY W HI)
 c1 : ∀ W ao ac bo bc, NS W ao ac LO.mag → NS W bo bc OV.mag → Calls Tryz.prog 9 #[.agg #[.bool LO.neg, .slice ao LO.mag.length ac, .int .i64 LO.exp], .agg #[.bool OV.neg, .slice bo OV.mag.length bc, .int .i64 OV.exp]] W fun e w' => e = .returned (.int .i64 g1) ∧ Below W.heap.size W w'
 c2 : ∀ W ao ac bo bc, NS W ao ac OV.mag → NS W bo bc HI.mag → Calls Tryz.prog 9 #[.agg #[.bool OV.neg, .slice ao OV.mag.length ac, .int .i64 OV.exp], .agg #[.bool HI.neg, .slice bo HI.mag.length bc, .int .i64 HI.exp]] W fun e w' => e = .returned (.int .i64 g2) ∧ Below W.heap.size W w'
 n1 : ¬ 0 < g1
 n2 : ¬ 0 < g2
 o1 : FloatKind.f64.format.order sl 0 = some .gt
 o2 : (FloatKind.f64.format.order sl sn == some .lt || FloatKind.f64.format.order sl sn == some .eq) = true
 o3 : (FloatKind.f64.format.order sn sh == some .lt || FloatKind.f64.format.order sn sh == some .eq) = true
 o4 : FloatKind.f64.format.order sh 9110782046170513408 = some .lt
theorem cU_sq {E : Nat} (hE : E = 1074) : cU * cU = 2 ^ (E + E) := by rw [cU_is hE, Nat.pow_add]
theorem spring_true {E : Nat} (hE : E = 1074) {m : Mb} (hm : MW m) (ge : finB m.e = true ∧ sgn m.e = false) (ga : finB m.ar = true ∧ sgn m.ar = false) (gi : finB m.i = true ∧ sgn m.i = false) {n : Nat} (hn : n ≤ 9223372036854775807) {s : Sg} (h : TrueS m n s) :
  ∃ OV UN EL EH LO HI g1 g2, SpC m (n : Int) s.k s.a.1.1 s.a.1.2 s.a.2 OV UN EL EH LO HI g1 g2 := by
 obtain ⟨v1, v2⟩ := h.pos.v
 have pf := h.pos.ends
 have rt := h.pos.rt
 have nO := ovD_nu hE m ge.1 ga.1 gi.1 ge.2 ga.2 gi.2 s.k
 have nU := unD_nu (n := n) (by omega) s.k
 have nL := nuY_float hE v1.1 v1.2.1
 have nH := nuY_float hE v2.1 v2.2.1
 have sL := szY_float v1.1
 have sH := szY_float v2.1
 have sU := nU.2.mono (m := 6) (f := 1100) (by omega) (by omega)
 have kL := nuY_three nL nL nU.1
 have kH := nuY_three nH nH nU.1
 have zL := pz_three (n := 6) (e := 1100) (sL.mono (by omega) (by omega)) (sL.mono (by omega) (by omega)) sU
 have zH := pz_three (n := 6) (e := 1100) (sH.mono (by omega) (by omega)) (sH.mono (by omega) (by omega)) sU
 have kL2 := (kL.up (E + E)).cast (k' := E + E + (E + E)) (by omega) rfl
 have kH2 := (kH.up (E + E)).cast (k' := E + E + (E + E)) (by omega) rfl
 have lo := h.lo
 have up := h.up
 rw [cU_sq hE] at lo up
 have tl := fun b W q => timesY_any [fY s.a.1.1, fY s.a.1.1, unD n s.k] b 3 W q (by simp) (sz_three sL.big sL.big sU.big)
 have th := fun b W q => timesY_any [fY s.a.1.2, fY s.a.1.2, unD n s.k] b 3 W q (by simp) (sz_three sH.big sH.big sU.big)
 have t2 := fun W => true2_any m hm ge.1 ga.1 gi.1 n hn s.k W
 obtain ⟨nO, zO⟩ := nO
 generalize prodD [fY s.a.1.1, fY s.a.1.1, unD n s.k] = LO at *
 generalize prodD [fY s.a.1.2, fY s.a.1.2, unD n s.k] = HI at *
 generalize ovD m s.k = OV at *
 have n1 := nuY_le kL2 nO (by omega) lo
 have n2 := nuY_le nO kH2 (by omega) up
 have c1 := fun W ao ac bo bc a b => compare_any LO OV ao bo ac bc W a b zL.lm zO.lm (Nat.le_trans zL.len (by omega)) (Nat.le_trans zO.len (by omega)) (by have := zL.lo; omega) (by have := zL.hi; omega) (by have := zO.lo; omega) (by have := zO.hi; omega)
 have c2 := fun W ao ac bo bc a b => compare_any OV HI ao bo ac bc W a b zO.lm zH.lm (Nat.le_trans zO.len (by omega)) (Nat.le_trans zH.len (by omega)) (by have := zO.lo; omega) (by have := zO.hi; omega) (by have := zH.lo; omega) (by have := zH.hi; omega)
 generalize sgI (qd LO - qd OV) = g1 at *
 generalize sgI (qd OV - qd HI) = g2 at *
 refine ⟨OV, unD n s.k, fY s.a.1.1, fY s.a.1.2, LO, HI, g1, g2, ⟨t2, fun W => exactY_any _ rt.fn.1.1 v1.1 W, fun W => exactY_any _ rt.fn.2.1 v2.1 W, tl, th, c1, c2, n1, n2, ?_, ?_, ?_, ?_⟩⟩
 ·have := ord_gt0 rt.fn.1
  rw [decide_eq_true pf.1.1] at this
  simpa using this
 ·have := leF_num rt.fn.1.1 h.fn.1 rt.fn.1.2 h.fn.2
  unfold leF at this
  rw [this]
  exact decide_eq_true h.nr.1
 ·have := leF_num h.fn.1 rt.fn.2.1 h.fn.2 rt.fn.2.2
  unfold leF at this
  rw [this]
  exact decide_eq_true h.nr.2
 ·refine ord_lt rt.fn.2.1 (by decide) rt.fn.2.2 (by decide) (Int.lt_of_le_of_lt h.hi ?_)
  decide
theorem sgAll_at (f : Nat → List Sg) : ∀ N i k, i < N → k < (f i).length → (sgAll f N).getD ((sgAll f i).length + k) sgz = sgM (i : Int) ((f i).getD k sgz) ∧ (sgAll f i).length + k < (sgAll f N).length
 | 0, i, k, h, _ => by omega
 | N + 1, i, k, h, hk => by
  rw [sgAll]
  by_cases e : i = N
  ·subst e
   refine ⟨?_, by simp; omega⟩
   rw [List.getD_eq_getElem?_getD, List.getElem?_append_right (by omega), show (sgAll f i).length + k - (sgAll f i).length = k by omega, List.getElem?_map]
   simp [List.getD, hk]
  ·obtain ⟨h1, h2⟩ := sgAll_at f N i k (by omega) hk
   refine ⟨?_, by simp; omega⟩
   rw [List.getD_eq_getElem?_getD, List.getElem?_append_left h2, ← List.getD_eq_getElem?_getD, h1]
end Go.Proofs.YtfipmopmpacdaaaGreatDoor
