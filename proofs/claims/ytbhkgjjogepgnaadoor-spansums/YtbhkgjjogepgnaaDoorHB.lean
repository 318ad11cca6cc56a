/- What span's functions answer of right spans, in letters. -/
import Derived.Test.YtbhkgjjogepgnaaDoorWA
import Derived.Test.YtbhkgjjogepgnaaDoorWB
import Derived.Test.YtbhkgjjogepgnaaDoorX1
import Derived.Test.YtbhkgjjogepgnaaDoorZQ
import Derived.Test.YtbhkgjjogepgnaaDoorZj
import Derived.Test.YtbhkgjjogepgnaaDoorZR
import Derived.Test.YtbhkgjjogepgnaaDoorK2
import Derived.Test.YtbhkgjjogepgnaaDoorY6
import Derived.Test.YtbhkgjjogepgnaaDoorZo
import Derived.Deep.QuietTactic
import Derived.BigQuiet
import Derived.Test.YtbhkgjjogepgnaaDoorSk
namespace Go.Proofs.YtbhkgjjogepgnaaDoor
open Go.RowKit

/-- Does the exact number of X units of 2^-2148 lie between the ends? -/
def HoX (p : Nat × Nat) (X : Int) : Prop := (finB p.1 = true → vI p.1 * 2 ^ twP ≤ X) ∧ (finB p.2 = true → X ≤ vI p.2 * 2 ^ twP)
theorem vW5 (s : Bool) {q : Nat} (h : q ≤ 9218868437227405312) : vI (Ieee.double.word s q) = (if s then -(val q : Int) else (val q : Int)) ∧ finB (Ieee.double.word s q) = decide (q < 9218868437227405312) := by
  have hw := word_rung s (show q < 9223372036854775808 by omega)
  unfold vI finB
  rw [hw.1, hw.2]
  exact ⟨rfl, rfl⟩
theorem brk_dn {A k : Nat} {r : Int} {G : Nat → Nat} (h : Brk A G k r) : G (rgS k r 1) ≤ A ∧ rgS k r 1 ≤ 9218868437227405312 := by
  obtain ⟨hk, h0, h1, h2⟩ := h
  unfold rgS
  rcases Int.lt_trichotomy r 0 with g | g | g
  · rw [if_pos ⟨Or.inl rfl, g⟩]; exact ⟨Nat.le_of_lt (h2 g).2.1, by omega⟩
  · rw [if_neg (by omega), if_neg (by omega)]; exact ⟨Nat.le_of_eq (h0 g).2, hk⟩
  · rw [if_neg (by omega), if_neg (by omega)]; exact ⟨Nat.le_of_lt (h1 g).2.1, hk⟩
theorem brk_up {A k : Nat} {r : Int} {G : Nat → Nat} (h : Brk A G k r) : (rgS k r 2 < 9218868437227405312 → A ≤ G (rgS k r 2)) ∧ rgS k r 2 ≤ 9218868437227405312 := by
  obtain ⟨hk, h0, h1, h2⟩ := h
  unfold rgS
  rcases Int.lt_trichotomy r 0 with g | g | g
  · rw [if_neg (by omega), if_neg (by omega)]; exact ⟨fun q => Nat.le_of_lt ((h2 g).2.2 q), hk⟩
  · rw [if_neg (by omega), if_neg (by omega)]; exact ⟨fun _ => Nat.le_of_eq (h0 g).2.symm, hk⟩
  · rw [if_neg (by omega), if_pos ⟨rfl, g⟩]; exact ⟨fun q => Nat.le_of_lt ((h1 g).2.2 q), by have := (h1 g).1; omega⟩
/-- What is told downwards is not above the exact number, upwards not below it: by sizes. -/
theorem told_val {s : Bool} {A : Nat} {G : Nat → Nat} {f : Int → Nat} (h : Told s A G f) :
    (s = false → (vI (f 1) = (val (rung (f 1)) : Int) ∧ sgn (f 1) = false ∧ G (rung (f 1)) ≤ A) ∧ (vI (f 2) = (val (rung (f 2)) : Int) ∧ sgn (f 2) = false ∧ (finB (f 2) = true → A ≤ G (rung (f 2))))) ∧
    (s = true → (vI (f 1) = -(val (rung (f 1)) : Int) ∧ sgn (f 1) = true ∧ (finB (f 1) = true → A ≤ G (rung (f 1)))) ∧ (vI (f 2) = -(val (rung (f 2)) : Int) ∧ sgn (f 2) = true ∧ G (rung (f 2)) ≤ A)) := by
  obtain ⟨k, r, hB, hf⟩ := h
  obtain ⟨d1, d2⟩ := brk_dn hB
  obtain ⟨u1, u2⟩ := brk_up hB
  have t1 : tmd 1 = 2 := rfl
  have t2 : tmd 2 = 1 := rfl
  have wr := fun (s : Bool) (q : Nat) (hq : q ≤ 9218868437227405312) => word_rung s (show q < 9223372036854775808 by omega)
  constructor
  · rintro rfl
    have e1 : f 1 = Ieee.double.word false (rgS k r 1) := hf 1
    have e2 : f 2 = Ieee.double.word false (rgS k r 2) := hf 2
    rw [e1, e2, (wr false _ d2).1, (wr false _ u2).1]
    exact ⟨⟨(vW5 false d2).1, (wr false _ d2).2, d1⟩, (vW5 false u2).1, (wr false _ u2).2, fun q => u1 (by rw [(vW5 false u2).2] at q; simpa using q)⟩
  · rintro rfl
    have e1 : f 1 = Ieee.double.word true (rgS k r 2) := hf 1
    have e2 : f 2 = Ieee.double.word true (rgS k r 1) := hf 2
    rw [e1, e2, (wr true _ d2).1, (wr true _ u2).1]
    exact ⟨⟨(vW5 true u2).1, (wr true _ u2).2, fun q => u1 (by rw [(vW5 true u2).2] at q; simpa using q)⟩, (vW5 true d2).1, (wr true _ d2).2, d1⟩
theorem pwp5 : (0 : Int) < 2 ^ twP := by
  have h := Nat.two_pow_pos twP
  generalize twP = t at *
  have e : ((2 ^ t : Nat) : Int) = (2 : Int) ^ t := (by simp)
  rw [← e]
  omega
theorem pwc5 : ((2 ^ twP : Nat) : Int) = (2 : Int) ^ twP := by
  generalize twP = t
  simp
theorem fu_exact {X : Int} (h0 : X ≠ 0) : HoX (fuV X 1, fuV X 2) X := by
  obtain ⟨hf, ht⟩ := told_val (fu_told h0)
  have pc := pwc5
  unfold HoX
  simp only
  rw [← pc]
  generalize (2 : Nat) ^ twP = c at *
  rcases Int.lt_or_le X 0 with g | g
  · obtain ⟨⟨v1, _, a1⟩, v2, _, a2⟩ := ht (by simpa using g)
    rw [v1, v2]
    have e1 : -(val (rung (fuV X 1)) : Int) * (c : Int) = -((val (rung (fuV X 1)) * c : Nat) : Int) := by rw [Int.neg_mul]; simp
    have e2 : -(val (rung (fuV X 2)) : Int) * (c : Int) = -((val (rung (fuV X 2)) * c : Nat) : Int) := by rw [Int.neg_mul]; simp
    rw [e1, e2]
    exact ⟨fun q => by have k : X.natAbs ≤ val (rung (fuV X 1)) * c := a1 q; omega, fun _ => by have k : val (rung (fuV X 2)) * c ≤ X.natAbs := a2; omega⟩
  · obtain ⟨⟨v1, _, a1⟩, v2, _, a2⟩ := hf (by simpa using g)
    rw [v1, v2]
    have e1 : (val (rung (fuV X 1)) : Int) * (c : Int) = ((val (rung (fuV X 1)) * c : Nat) : Int) := by simp
    have e2 : (val (rung (fuV X 2)) : Int) * (c : Int) = ((val (rung (fuV X 2)) * c : Nat) : Int) := by simp
    rw [e1, e2]
    exact ⟨fun _ => by have k : val (rung (fuV X 1)) * c ≤ X.natAbs := a1; omega, fun q => by have k : X.natAbs ≤ val (rung (fuV X 2)) * c := a2 q; omega⟩
theorem vIn5 {v : Nat} (h : place v = 0) : vI v = 0 := by
  have r : rung v = 0 := by unfold place at h; split at h <;> omega
  unfold vI
  rw [r, val_zero]
  split <;> rfl
theorem ho_zero {p : Nat × Nat} (h1 : place p.1 = 0) (h2 : place p.2 = 0) : HoX p 0 := by
  unfold HoX
  rw [vIn5 h1, vIn5 h2]
  simp
theorem add_exact {x y : Nat} (hx : Fn x) (hy : Fn y) (fx : finB x = true) (fy : finB y = true) : HoX (addB 1 x y, addB 2 x y) ((vI x + vI y) * 2 ^ twP) := by
  have e : ∀ m, addB m x y = addV x y m := fun m => by unfold addB; rw [fx, fy]; rfl
  rw [e, e]
  by_cases h0 : vI x + vI y = 0
  · obtain ⟨e1, g⟩ := add_nought 1 hx.1 hy.1 fx fy h0
    obtain ⟨e2, _⟩ := add_nought 2 hx.1 hy.1 fx fy h0
    rw [e1, e2, h0, Int.zero_mul]
    exact ho_zero (nought_place (noughtF_is 1 hx.1 g)) (nought_place (noughtF_is 2 hx.1 g))
  · rw [add_fu 1 hx.1 hy.1 fx fy h0, add_fu 2 hx.1 hy.1 fx fy h0]
    exact fu_exact (Int.mul_ne_zero h0 (by have := pwp5; omega))
theorem mul_exact {x y : Nat} (hx : Fn x) (hy : Fn y) (fx : finB x = true) (fy : finB y = true) : HoX (tB 1 x y, tB 2 x y) (vI x * vI y) := by
  have e : ∀ m, tB m x y = mulB m x y := fun m => by unfold tB; rw [fx, fy]; simp
  rw [e, e]
  cases s : (someB x && someB y)
  · have o := mulS_ok hx.1 hy.1 hx.2 hy.2 (by rw [fx, fy]; simp)
    obtain ⟨v, hv⟩ := Option.isSome_iff_exists.1 o
    have g : ∀ m, mulB m x y = v := fun m => by unfold mulB; rw [s, hv]; rfl
    have z := mul_zero_place hx hy fx fy s hv
    have z2 : vI x * vI y = 0 := by
      have zz : rung x = 0 ∨ rung y = 0 := by
        unfold someB at s
        rw [fx, fy] at s
        simp at s
        omega
      rcases zz with q | q
      · rw [vIn5 (zero_place q), Int.zero_mul]
      · rw [vIn5 (zero_place q), Int.mul_zero]
    rw [g, g, z2]
    exact ho_zero z z
  · have sx : someB x = true := by revert s; cases someB x <;> simp
    have sy : someB y = true := by revert s; cases someB x <;> simp
    have g : ∀ m, mulB m x y = fuV (vI x * vI y) m := fun m => by unfold mulB; rw [s]; exact mul_fu m hx.1 hy.1 sx sy
    rw [g, g]
    have rx := (vI_sign (show rung x ≠ 0 by simpa using (some_rung sx).2)).1
    have ry := (vI_sign (show rung y ≠ 0 by simpa using (some_rung sy).2)).1
    exact fu_exact (Int.mul_ne_zero rx ry)
theorem fin_mid {x : Nat} (h : Fn x) (p1 : place x ≤ 9218868437227405311) (p2 : -9218868437227405311 ≤ place x) : finB x = true := by
  cases f : finB x
  · have := (lo_inf h p1 f).2; omega
  · rfl
/-- What lies between lesser ends lies between wider ones. -/
theorem ho_wider {p q : Nat × Nat} {X : Int} (hq : RtP q) (w : Wt q p) (h : HoX q X) : HoX p X := by
  obtain ⟨w1, w2⟩ := w
  obtain ⟨q1, q2, q3⟩ := hq.pl
  have c := Int.le_of_lt pwp5
  constructor
  · intro f
    have pf := pl_fin f
    have fq := fin_mid hq.fn.1 q2 (by omega)
    exact Int.le_trans (Int.mul_le_mul_of_nonneg_right (vI_le_of w1) c) (h.1 fq)
  · intro f
    have pf := pl_fin f
    have fq := fin_mid hq.fn.2 (by omega) q3
    exact Int.le_trans (h.2 fq) (Int.mul_le_mul_of_nonneg_right (vI_le_of w2) c)
/-- A number of a span. -/
def Of1 (x : Nat) (a : Nat × Nat) : Prop := Fn x ∧ finB x = true ∧ place a.1 ≤ place x ∧ place x ≤ place a.2
theorem Of1.rt {x : Nat} {a : Nat × Nat} (h : Of1 x a) : RtP (x, x) := by
  have p := pl_fin h.2.1
  exact RtP.mk h.1 h.1 (Int.le_refl _) (by simp only; omega) (by simp only; omega)
theorem Of1.wt {x : Nat} {a : Nat × Nat} (h : Of1 x a) : Wt (x, x) a := ⟨h.2.2.1, h.2.2.2⟩
theorem lsF_me (a : Nat) : lsF a a = a := by unfold lsF; split <;> rfl
theorem grF_me (a : Nat) : grF a a = a := by unfold grF; split <;> rfl
theorem muP_one (x y : Nat) : muP (x, x) (y, y) = (tB 1 x y, tB 2 x y) := by unfold muP lsC grC; simp only [lsF_me, grF_me]
theorem diP_one (x y : Nat) : diP (x, x) (y, y) = (oB 1 x y, oB 2 x y) := by unfold diP lsC grC; simp only [lsF_me, grF_me]
theorem hold_add {a b : Nat × Nat} {x y : Nat} (ha : RtP a) (hb : RtP b) (hx : Of1 x a) (hy : Of1 y b) : HoX (adP a b) ((vI x + vI y) * 2 ^ twP) :=
  ho_wider (adP_rt hx.rt hy.rt) (adP_wt hx.rt hy.rt ha hb hx.wt hy.wt) (add_exact hx.1 hy.1 hx.2.1 hy.2.1)
theorem vNg5 {y : Nat} (hy : y < 18446744073709551616) : vI (negW y) = -vI y := by
  obtain ⟨_, _, _, r, s⟩ := neg_back hy
  unfold vI
  rw [r, s]
  cases sgn y <;> simp
theorem hold_sub {a b : Nat × Nat} {x y : Nat} (ha : RtP a) (hb : RtP b) (hx : Of1 x a) (hy : Of1 y b) : HoX (adP a (ngP b)) ((vI x - vI y) * 2 ^ twP) := by
  have e := (neg_back hy.1.1).2.2.1
  have e1 := (neg_back hb.1).2.2.1
  have e2 := (neg_back hb.2.1).2.2.1
  obtain ⟨y1, y2, y3, y4⟩ := hy
  have hn : Of1 (negW y) (ngP b) := ⟨neg_Fn y1, by rw [fin_neg y1.1]; exact y2, by simp only [ngP]; omega, by simp only [ngP]; omega⟩
  have := hold_add ha (ngP_rt hb) hx hn
  rw [vNg5 y1.1] at this
  exact this
theorem hold_mul {a b : Nat × Nat} {x y : Nat} (ha : RtP a) (hb : RtP b) (hx : Of1 x a) (hy : Of1 y b) : HoX (muP a b) (vI x * vI y) := by
  have h := mul_exact hx.1 hy.1 hx.2.1 hy.2.1
  rw [← muP_one] at h
  exact ho_wider (muP_rt hx.rt hy.rt) (muP_wt hx.rt hy.rt ha hb hx.wt hy.wt) h
/-- A number's size. -/
theorem size_one {x : Nat} (hx : Fn x) (fx : finB x = true) : ∃ s, abP (x, x) = (s, s) ∧ Fn s ∧ finB s = true ∧ (vI s = vI x ∨ vI s = -vI x) ∧ (place s = place x ∨ place s = -place x) ∧ 0 ≤ place s := by
  unfold abP
  split
  · rename_i q; simp only at q; exact ⟨x, rfl, hx, fx, Or.inl rfl, Or.inl rfl, by omega⟩
  · split
    · rename_i q
      simp only at q
      have e := (neg_back hx.1).2.2.1
      exact ⟨negW x, rfl, neg_Fn hx, by rw [fin_neg hx.1]; exact fx, Or.inr (vNg5 hx.1), Or.inr e, by omega⟩
    · rename_i q1 q2
      simp only at q1 q2
      have p0 : place x = 0 := by omega
      have r : rung x = 0 := by unfold place at p0; split at p0 <;> omega
      refine ⟨0, ?_, ⟨by omega, rfl⟩, rfl, Or.inl ?_, Or.inl p0.symm, Int.le_refl _⟩
      · simp only [r, grF_me]
      · rw [vIn5 p0]; exact vIn5 rfl
theorem hold_square {a : Nat × Nat} {x : Nat} (ha : RtP a) (hx : Of1 x a) : HoX (squP a) (vI x * vI x) := by
  obtain ⟨s, e, fs, ns, v, _, _⟩ := size_one hx.1 hx.2.1
  have h := mul_exact fs fs ns ns
  have e2 : squP (x, x) = (tB 1 s s, tB 2 s s) := by unfold squP; rw [e]; simp only [(mulB_self _ fs).1]
  rw [← e2] at h
  have e3 : vI s * vI s = vI x * vI x := by rcases v with v | v <;> rw [v] <;> simp [Int.neg_mul_neg]
  rw [e3] at h
  exact ho_wider (squP_rt hx.rt) (squP_wt hx.rt ha hx.wt) h
/-- The size is one of Abs'. -/
theorem has_abs {a : Nat × Nat} {x z : Nat} (ha : RtP a) (hx : Of1 x a) (pz : (0 ≤ place x ∧ place z = place x) ∨ (place x ≤ 0 ∧ place z = -place x)) : place (abP a).1 ≤ place z ∧ place z ≤ place (abP a).2 := by
  obtain ⟨s, e, _, _, _, ps, p0⟩ := size_one hx.1 hx.2.1
  have w := abP_wt hx.rt ha hx.wt
  rw [e] at w
  obtain ⟨w1, w2⟩ := w
  simp only at w1 w2
  omega
end Go.Proofs.YtbhkgjjogepgnaaDoor

namespace Go.Proofs.YtbhkgjjogepgnaaDoor
open Go.RowKit

/-- A dyad as a value; with an error of none. -/
def dyU (D : Dy) (ao : Option Addr) (cap : Nat) (t : Bool) : Value := if t then .tuple #[.agg #[.bool D.neg, .slice ao D.mag.length cap, .int .i64 D.exp], .int .i64 0] else .agg #[.bool D.neg, .slice ao D.mag.length cap, .int .i64 D.exp]
def NoIn (ao : Option Addr) (D : Dy) (g : Nat) : Prop := ∀ b off, ao = some ⟨b, off, none⟩ → D.mag.length ≠ 0 → b ≠ g
structure RgD (ops : Array Oper) (W : World) (ia is : Nat) (P : Dy) (K : Nat → Option (Dy × Bool)) (val : Nat → Value) (L : Array Bool) (w : World) (v : Nat → Value) (g : Nat) : Prop where
  m : Below W.heap.size W w
  d : ∀ j, K j = none → j ≠ ia → On L j → v j = val j
  r : ∀ j D t, K j = some (D, t) → On L j → ∃ ao cap, v j = dyU D ao cap t ∧ LRow w ao D.mag ∧ (On L ia → NoIn ao D g)
  p : On L ia → v ia = .pointer (some ⟨g, 0, none⟩) ∧ W.heap.size ≤ g ∧ g < w.heap.size
  n : On L ia → ¬ On L is → Hd w g dy0 none 0 ∧ Fzr w g
  y : On L is → ∃ ao cap, Hd w g P ao cap
  dc : ∀ j k, On L j → waits ops j k = true → On L k
section
variable {ops : Array Oper} {W : World} {ia is : Nat} {P : Dy} {K : Nat → Option (Dy × Bool)} {val : Nat → Value} {L : Array Bool} {w : World} {v : Nat → Value} {g : Nat}
theorem RgD.start {k : Nat} (h : Below W.heap.size W w) : RgD ops W ia is P K val (Array.replicate k false) w v g :=
  ⟨h, fun _ _ _ q => absurd q on_none, fun _ _ _ _ q => absurd q on_none, fun q => absurd q on_none, fun q => absurd q on_none, fun q => absurd q on_none, fun _ _ q => absurd q on_none⟩
/-- A step whose value is known. -/
theorem RgD.step {i : Nat} {u : Value} (h : RgD ops W ia is P K val L w v g) (hL : L.size = ops.size) (hi : i ∈ Region.ready .any ops L) (hk : K i = none) (hia : i ≠ ia) (his : i ≠ is) (hu : u = val i) :
    RgD ops W ia is P K val (L.setIfInBounds i true) w (put9 v i u) g := by
  have hi2 : i < L.size := by rw [hL]; exact (mem_ready hi).1
  have on := fun (j : Nat) (q : j ≠ i) (e : On (L.setIfInBounds i true) j) => ((on_set hi2 j).1 e).resolve_left q
  have up := fun (j : Nat) (e : On L j) => (on_set hi2 j).2 (Or.inr e)
  refine ⟨h.m, fun j hj qa e => ?_, fun j D t hj e => ?_, fun e => ?_, fun e f => ?_, fun e => ?_, fun j k e hw => ?_⟩
  · by_cases q : j = i
    · subst q; rw [put9, if_pos rfl]; exact hu
    · rw [put9, if_neg q]; exact h.d j hj qa (on j q e)
  · have q : j ≠ i := fun q => by rw [q, hk] at hj; cases hj
    rw [put9, if_neg q]
    obtain ⟨ao, cap, e1, e2, e3⟩ := h.r j D t hj (on j q e)
    exact ⟨ao, cap, e1, e2, fun f => e3 (on _ (Ne.symm hia) f)⟩
  · rw [put9, if_neg (Ne.symm hia)]; exact h.p (on _ (Ne.symm hia) e)
  · exact h.n (on _ (Ne.symm hia) e) (fun q => f (up _ q))
  · exact h.y (on _ (Ne.symm his) e)
  · rcases (on_set hi2 j).1 e with q | q
    · subst q; exact up k (ready_dep hi k hw)
    · exact up k (h.dc j k q hw)
/-- A step that gives a dyad: by a call, or out of another. -/
theorem RgD.stepD {i : Nat} {D : Dy} {t : Bool} {ao : Option Addr} {cap : Nat} {w' : World} (h : RgD ops W ia is P K val L w v g) (hL : L.size = ops.size) (hi : i ∈ Region.ready .any ops L) (hk : K i = some (D, t)) (hia : i ≠ ia) (his : i ≠ is) (hb : Below w.heap.size w w') (hr : LRow w' ao D.mag) (hn : On L ia → NoIn ao D g) :
    RgD ops W ia is P K val (L.setIfInBounds i true) w' (put9 v i (dyU D ao cap t)) g := by
  have hi2 : i < L.size := by rw [hL]; exact (mem_ready hi).1
  have on := fun (j : Nat) (q : j ≠ i) (e : On (L.setIfInBounds i true) j) => ((on_set hi2 j).1 e).resolve_left q
  have up := fun (j : Nat) (e : On L j) => (on_set hi2 j).2 (Or.inr e)
  refine ⟨h.m.trans (hb.mono h.m.size), fun j hj qa e => ?_, fun j D' t' hj e => ?_, fun e => ?_, fun e f => ?_, fun e => ?_, fun j k e hw => ?_⟩
  · have q : j ≠ i := fun q => by rw [q, hk] at hj; cases hj
    rw [put9, if_neg q]; exact h.d j hj qa (on j q e)
  · by_cases q : j = i
    · subst q
      rw [hk] at hj
      cases hj
      rw [put9, if_pos rfl]
      exact ⟨ao, cap, rfl, hr, fun f => hn (on _ (Ne.symm hia) f)⟩
    · rw [put9, if_neg q]
      obtain ⟨a, c, e1, e2, e3⟩ := h.r j D' t' hj (on j q e)
      exact ⟨a, c, e1, e2.below hb, fun f => e3 (on _ (Ne.symm hia) f)⟩
  · rw [put9, if_neg (Ne.symm hia)]
    obtain ⟨p1, p2, p3⟩ := h.p (on _ (Ne.symm hia) e)
    exact ⟨p1, p2, Nat.lt_of_lt_of_le p3 hb.size⟩
  · obtain ⟨n1, n2⟩ := h.n (on _ (Ne.symm hia) e) (fun q => f (up _ q))
    exact n1.six n2 hb
  · obtain ⟨a, c, e1⟩ := h.y (on _ (Ne.symm his) e)
    exact ⟨a, c, e1.below hb⟩
  · rcases (on_set hi2 j).1 e with q | q
    · subst q; exact up k (ready_dep hi k hw)
    · exact up k (h.dc j k q hw)
theorem RgD.make (h : RgD ops W ia is P K val L w v g) (hL : L.size = ops.size) (hi : ia ∈ Region.ready .any ops L) (hno : ¬ On L ia) (hk : K ia = none) (hne : ia ≠ is) (hw2 : waits ops is ia = true) :
    RgD ops W ia is P K val (L.setIfInBounds ia true) (w.alloc (.cells #[.bool false, .slice none 0 0, .int .i64 0] 38)) (put9 v ia (.pointer (some ⟨w.heap.size, 0, none⟩))) w.heap.size := by
  have hi2 : ia < L.size := by rw [hL]; exact (mem_ready hi).1
  have on := fun (j : Nat) (q : j ≠ ia) (e : On (L.setIfInBounds ia true) j) => ((on_set hi2 j).1 e).resolve_left q
  have up := fun (j : Nat) (e : On L j) => (on_set hi2 j).2 (Or.inr e)
  have hb : Below w.heap.size w (w.alloc (.cells #[.bool false, .slice none 0 0, .int .i64 0] 38)) := (Below.refl _ _).alloc (Nat.le_refl _) _
  refine ⟨h.m.trans (hb.mono h.m.size), fun j hj qa e => ?_, fun j D t hj e => ?_, fun _ => ⟨by rw [put9, if_pos rfl], h.m.size, by simp⟩, fun _ _ => ⟨Hd.new (d := dy0) (Or.inl rfl), fz_new _ _ _ _⟩, fun e => ?_, fun j k e hw => ?_⟩
  · rw [put9, if_neg qa]; exact h.d j hj qa (on j qa e)
  · have q : j ≠ ia := fun q => by rw [q, hk] at hj; cases hj
    rw [put9, if_neg q]
    obtain ⟨a, c, e1, e2, _⟩ := h.r j D t hj (on j q e)
    exact ⟨a, c, e1, e2.below hb, fun _ b off ea h0 => Nat.ne_of_lt (row_lt e2 b off ea h0)⟩
  · exact absurd (h.dc is ia (on _ (Ne.symm hne) e) hw2) hno
  · rcases (on_set hi2 j).1 e with q | q
    · subst q; exact up k (ready_dep hi k hw)
    · exact up k (h.dc j k q hw)
theorem RgD.store {u : Value} {ao : Option Addr} {cap : Nat} (h : RgD ops W ia is P K val L w v g) (hL : L.size = ops.size) (hi : is ∈ Region.ready .any ops L) (hno : ¬ On L is) (hk : K is = none) (hne : ia ≠ is) (hw2 : waits ops is ia = true) (hr : LRow w ao P.mag) (hn : NoIn ao P g) (hu : u = val is) :
    RgD ops W ia is P K val (L.setIfInBounds is true) (((w.setCell ⟨g, 0, none⟩ (.bool P.neg)).setCell ⟨g, 1, none⟩ (.slice ao P.mag.length cap)).setCell ⟨g, 2, none⟩ (.int .i64 P.exp)) (put9 v is u) g := by
  have hi2 : is < L.size := by rw [hL]; exact (mem_ready hi).1
  have on := fun (j : Nat) (q : j ≠ is) (e : On (L.setIfInBounds is true) j) => ((on_set hi2 j).1 e).resolve_left q
  have up := fun (j : Nat) (e : On L j) => (on_set hi2 j).2 (Or.inr e)
  have ha := ready_dep hi ia hw2
  obtain ⟨p1, p2, p3⟩ := h.p ha
  obtain ⟨n1, n2⟩ := h.n ha hno
  refine ⟨((h.m.setCell p2 _).setCell p2 _).setCell p2 _, fun j hj qa e => ?_, fun j D t hj e => ?_, fun _ => ?_, fun _ f => absurd ((on_set hi2 is).2 (Or.inl rfl)) f, fun _ => ⟨ao, cap, put3n n1 hr hn⟩, fun j k e hw => ?_⟩
  · by_cases q : j = is
    · subst q; rw [put9, if_pos rfl]; exact hu
    · rw [put9, if_neg q]; exact h.d j hj qa (on j q e)
  · have q : j ≠ is := fun q => by rw [q, hk] at hj; cases hj
    rw [put9, if_neg q]
    obtain ⟨a, c, e1, e2, e3⟩ := h.r j D t hj (on j q e)
    have ni : ∀ b off, a = some ⟨b, off, none⟩ → D.mag.length ≠ 0 → b ≠ g := e3 ha
    exact ⟨a, c, e1, ((e2.setCell (p := ⟨g, 0, none⟩) _ ni).setCell (p := ⟨g, 1, none⟩) _ ni).setCell (p := ⟨g, 2, none⟩) _ ni, fun _ => ni⟩
  · rw [put9, if_neg hne]; exact ⟨p1, p2, by simp [World.setCell]; exact p3⟩
  · rcases (on_set hi2 j).1 e with q | q
    · subst q; exact up k (ready_dep hi k hw)
    · exact up k (h.dc j k q hw)
theorem region_rgD {Pr : Program} {Q : Exit → Act → World → Prop} {id : Nat} {a : Act} (hm : Pr.follows .mixedOrders = true) (F : (Nat → Value) → Act) (ia is : Nat) (P : Dy) (K : Nat → Option (Dy × Bool)) (val : Nat → Value) (v0 : Nat → Value) (h0 : a = F v0)
    (hs : ∀ L v g w i, L.size = ops.size → RgD ops W ia is P K val L w v g → i ∈ Region.ready .any ops L → wpOp Pr ops Q i (fun a' w' => ∃ v' g', a' = F v' ∧ RgD ops W ia is P K val (L.setIfInBounds i true) w' v' g') (F v) w)
    (hf : ∀ L v g w, L.size = ops.size → RgD ops W ia is P K val L w v g → Region.ready .any ops L = [] → Q .normal (F v) w) : (Code.region id ops true).wp Pr Q a W := by
  refine region_inv hm (fun L a w' => ∃ v g, a = F v ∧ RgD ops W ia is P K val L w' v g) ⟨v0, 0, h0, RgD.start (Below.refl _ _).drew⟩ ?_ ?_
  · rintro L a w' i hL ⟨v, g, rfl, hS⟩ hi
    exact hs L v g w' i hL hS hi
  · rintro L a w' hL ⟨v, g, rfl, hS⟩ hr
    exact hf L v g w' hL hS hr
end
end Go.Proofs.YtbhkgjjogepgnaaDoor

namespace Go.Proofs.YtbhkgjjogepgnaaDoor
open Go.RowKit

/-- x / y lies between the ends, told by products. -/
def DvX (p : Nat × Nat) (x y : Nat) : Prop :=
  (sgn y = false → (finB p.1 = true → vI p.1 * vI y ≤ vI x * 2 ^ twP) ∧ (finB p.2 = true → vI x * 2 ^ twP ≤ vI p.2 * vI y)) ∧
  (sgn y = true → (finB p.1 = true → vI x * 2 ^ twP ≤ vI p.1 * vI y) ∧ (finB p.2 = true → vI p.2 * vI y ≤ vI x * 2 ^ twP))
theorem vI_cs (x : Nat) : (sgn x = false → vI x = (val (rung x) : Int)) ∧ (sgn x = true → vI x = -(val (rung x) : Int)) := by
  unfold vI
  constructor <;> intro h <;> rw [h] <;> rfl
theorem div_exact {x y : Nat} (hx : Fn x) (hy : Fn y) (fx : finB x = true) (fy : finB y = true) (y0 : rung y ≠ 0) : DvX (oB 1 x y, oB 2 x y) x y := by
  have pc := pwc5
  unfold DvX
  simp only
  rw [oB_fin 1 fy, oB_fin 2 fy, ← pc]
  by_cases x0 : rung x = 0
  · obtain ⟨v, hv⟩ := Option.isSome_iff_exists.1 (oB_ok hx hy fy y0)
    have s : someB x = false := by unfold someB; rw [x0]; simp
    have g : ∀ m, divB m x y = v := fun m => by unfold divB; rw [s, hv]; rfl
    have z := vIn5 (quo_zero_place hx hy fy x0 y0 hv)
    rw [g, g, z, vIn5 (zero_place x0)]
    simp
  · have sx : someB x = true := by unfold someB; rw [fx]; simpa using x0
    have sy : someB y = true := by unfold someB; rw [fy]; simpa using y0
    have e : ∀ m, divB m x y = stepF (kQ x y) (kS x y) m := fun m => by unfold divB; rw [sx, sy]; rfl
    obtain ⟨hf, ht⟩ := told_val (div_told hx.1 hy.1 sx sy)
    rw [e, e]
    try dsimp only at hf ht
    generalize stepF (kQ x y) (kS x y) 1 = l at *
    generalize stepF (kQ x y) (kS x y) 2 = h at *
    generalize (2 : Nat) ^ twP = c at *
    have cx := vI_cs x
    have cy := vI_cs y
    generalize val (rung x) = X at *
    generalize val (rung y) = Y at *
    generalize vI x = vx at *
    generalize vI y = vy at *
    have mc : ∀ a b : Nat, (a : Int) * (b : Int) = ((a * b : Nat) : Int) := fun a b => by simp
    have nn : ∀ a b : Nat, -(a : Int) * -(b : Int) = ((a * b : Nat) : Int) := fun a b => by rw [Int.neg_mul_neg]; simp
    have np : ∀ a b : Nat, -(a : Int) * (b : Int) = -((a * b : Nat) : Int) := fun a b => by rw [Int.neg_mul]; simp
    have pn : ∀ a b : Nat, (a : Int) * -(b : Int) = -((a * b : Nat) : Int) := fun a b => by rw [Int.mul_neg]; simp
    cases s1 : sgn x <;> cases s2 : sgn y <;> rw [s1, s2] at hf ht
    · obtain ⟨⟨v1, _, a1⟩, v2, _, a2⟩ := hf rfl
      rw [cx.1 s1, cy.1 s2, v1, v2]
      refine ⟨fun _ => ⟨fun _ => ?_, fun q => ?_⟩, fun q => by cases q⟩
      · rw [mc, mc]; exact_mod_cast a1
      · have := a2 q; rw [mc, mc]; exact_mod_cast this
    · obtain ⟨⟨v1, _, a1⟩, v2, _, a2⟩ := ht rfl
      rw [cx.1 s1, cy.2 s2, v1, v2]
      refine ⟨fun q => (by cases q), fun _ => ⟨fun q => ?_, fun _ => ?_⟩⟩
      · have := a1 q; rw [nn, mc]; exact_mod_cast this
      · rw [nn, mc]; exact_mod_cast a2
    · obtain ⟨⟨v1, _, a1⟩, v2, _, a2⟩ := ht rfl
      rw [cx.2 s1, cy.1 s2, v1, v2]
      refine ⟨fun _ => ⟨fun q => ?_, fun _ => ?_⟩, fun q => by cases q⟩
      · have := a1 q; rw [np, np]; omega
      · rw [np, np]; omega
    · obtain ⟨⟨v1, _, a1⟩, v2, _, a2⟩ := hf rfl
      rw [cx.2 s1, cy.2 s2, v1, v2]
      refine ⟨fun q => (by cases q), fun _ => ⟨fun _ => ?_, fun q => ?_⟩⟩
      · rw [np, pn]; omega
      · have := a2 q; rw [np, pn]; omega
theorem dv_wider {p q : Nat × Nat} {x y : Nat} (hq : RtP q) (w : Wt q p) (h : DvX q x y) : DvX p x y := by
  obtain ⟨w1, w2⟩ := w
  obtain ⟨q1, q2, q3⟩ := hq.pl
  have cy := vI_cs y
  have k1 : finB p.1 = true → finB q.1 = true := fun f => by
    have pf := pl_fin f
    exact fin_mid hq.fn.1 q2 (by omega)
  have k2 : finB p.2 = true → finB q.2 = true := fun f => by
    have pf := pl_fin f
    exact fin_mid hq.fn.2 (by omega) q3
  constructor
  · intro s
    have y0 : 0 ≤ vI y := by rw [cy.1 s]; omega
    exact ⟨fun f => Int.le_trans (Int.mul_le_mul_of_nonneg_right (vI_le_of w1) y0) ((h.1 s).1 (k1 f)), fun f => Int.le_trans ((h.1 s).2 (k2 f)) (Int.mul_le_mul_of_nonneg_right (vI_le_of w2) y0)⟩
  · intro s
    have y0 : vI y ≤ 0 := by rw [cy.2 s]; omega
    exact ⟨fun f => Int.le_trans ((h.2 s).1 (k1 f)) (Int.mul_le_mul_of_nonpos_right (vI_le_of w1) y0), fun f => Int.le_trans (Int.mul_le_mul_of_nonpos_right (vI_le_of w2) y0) ((h.2 s).2 (k2 f))⟩
theorem in_side {y : Nat} {b : Nat × Nat} (n : No0 b) (hy : Of1 y b) : rung y ≠ 0 ∧ sgn y = sgn b.1 := by
  obtain ⟨c0, d0, sd⟩ := n
  obtain ⟨_, _, q1, q2⟩ := hy
  unfold place at q1 q2
  rw [← sd] at q2
  cases s1 : sgn b.1 <;> cases s2 : sgn y <;> rw [s1, s2] at q1 q2 <;> simp only [if_true, Bool.false_eq_true, if_false] at q1 q2
  · exact ⟨by omega, rfl⟩
  · omega
  · omega
  · exact ⟨by omega, rfl⟩
theorem hold_div {a b : Nat × Nat} {x y : Nat} (ha : RtP a) (hb : RtP b) (n : No0 b) (hx : Of1 x a) (hy : Of1 y b) : DvX (diP a b) x y := by
  obtain ⟨y0, sy⟩ := in_side n hy
  have h := div_exact hx.1 hy.1 hx.2.1 hy.2.1 y0
  rw [← diP_one] at h
  have ny : No0 (y, y) := ⟨y0, y0, rfl⟩
  exact dv_wider (diP_rt hx.rt hy.rt ny) (diP_wt hx.rt hy.rt ha hb hx.wt hy.wt n ny) h
/-- The root of x lies between the ends, told by squares. -/
def RoX (p : Nat × Nat) (x : Nat) : Prop := vI p.1 * vI p.1 ≤ vI x * 2 ^ twP ∧ (finB p.2 = true → vI x * 2 ^ twP ≤ vI p.2 * vI p.2)
theorem vI_pos {x : Nat} (h : 0 ≤ place x) : 0 ≤ vI x := by
  have e := vI_le_of (x := 0) (y := x) (by rw [show place 0 = 0 from rfl]; exact h)
  rw [vIn5 (v := 0) rfl] at e
  exact e
theorem root_exact {x : Nat} (hx : Fn x) (fx : finB x = true) (p0 : 0 ≤ place x) : RoX (sqB 1 x, sqB 2 x) x := by
  have pc := pwc5
  unfold RoX
  simp only
  rw [← pc]
  by_cases z : place x = 0
  · have e1 := (sqO_facts 1 hx (sqO_some 1 (root_ok hx p0))).2.2.2.1 z
    have e2 := (sqO_facts 2 hx (sqO_some 2 (root_ok hx p0))).2.2.2.1 z
    rw [vIn5 e1, vIn5 e2, vIn5 z]
    simp
  · have r0 : rung x ≠ 0 := fun e => z (zero_place e)
    have s0 : sgn x = false := pos_sgn (by omega)
    have sx : someB x = true := by unfold someB; rw [fx]; simpa using r0
    have e : ∀ m, sqB m x = stepF (tQ x) (tS x) m := fun m => by unfold sqB; rw [sx, s0]; rfl
    obtain ⟨⟨v1, _, a1⟩, v2, _, a2⟩ := (told_val (sqrt_told hx.1 sx s0)).1 rfl
    rw [e, e, v1, v2, (vI_cs x).1 s0]
    try dsimp only at a1 a2
    generalize stepF (tQ x) (tS x) 1 = l at *
    generalize stepF (tQ x) (tS x) 2 = h at *
    generalize (2 : Nat) ^ twP = c at *
    have mc : ∀ a b : Nat, (a : Int) * (b : Int) = ((a * b : Nat) : Int) := fun a b => by simp
    refine ⟨?_, fun q => ?_⟩
    · rw [mc, mc]; exact_mod_cast a1
    · have := a2 q; rw [mc, mc]; exact_mod_cast this
theorem hold_root {a : Nat × Nat} {x : Nat} (ha : RtP a) (a0 : 0 ≤ place a.1) (hx : Of1 x a) : RoX (sqP a) x ∧ finB (sqP a).1 = true ∧ 0 ≤ place (sqP a).1 := by
  have x0 : 0 ≤ place x := Int.le_trans a0 hx.2.2.1
  have h := root_exact hx.1 hx.2.1 x0
  have rt := sqP_rt ha a0
  have rx := sqP_rt hx.rt x0
  obtain ⟨w1, w2⟩ := sqP_wt hx.rt ha hx.wt a0
  have l0 := (sqO_facts 1 ha.fn.1 (sqO_some 1 (root_ok ha.fn.1 a0))).2.1
  have l0' : 0 ≤ place (sqP a).1 := l0
  have u0 := (sqO_facts 2 hx.1 (sqO_some 2 (root_ok hx.1 x0))).2.1
  have u0' : 0 ≤ place (sqP (x, x)).2 := u0
  have q2 := rt.pl.2.1
  refine ⟨⟨?_, fun f => ?_⟩, fin_mid rt.fn.1 q2 (by omega), l0'⟩
  · have k := vI_le_of w1
    have k0 := vI_pos l0'
    exact Int.le_trans (Int.mul_le_mul k k k0 (Int.le_trans k0 k)) h.1
  · have pf := pl_fin f
    have fq : finB (sqP (x, x)).2 = true := fin_mid rx.fn.2 (by omega) rx.pl.2.2
    have k := vI_le_of w2
    have k0 := vI_pos u0'
    exact Int.le_trans (h.2 fq) (Int.mul_le_mul k k k0 (Int.le_trans k0 k))
end Go.Proofs.YtbhkgjjogepgnaaDoor

namespace Go.Proofs.YtbhkgjjogepgnaaDoor
open Go.RowKit

end Go.Proofs.YtbhkgjjogepgnaaDoor

namespace Go.Proofs.YtbhkgjjogepgnaaDoor
open Go.RowKit

set_option maxHeartbeats 2000000 in
theorem cmp_arg (a b : Dy) (ao bo : Option Addr) (cap bcap : Nat) (w : World) (hr : LRow w ao a.mag) (hs : LRow w bo b.mag) (hL : Lm a.mag) (hM : Lm b.mag) (h : rightB a = false ∨ rightB b = false) :
    Calls Tryd.prog 68 #[.agg #[.bool a.neg, .slice ao a.mag.length cap, .int .i64 a.exp], .agg #[.bool b.neg, .slice bo b.mag.length bcap, .int .i64 b.exp]] w fun e w' => e = .returned (.tuple #[.int .i64 0, .int .i64 2]) ∧ Below w.heap.size w w' := by
  have hR := fun w' (h : LRow w' ao a.mag) => right_any a ao cap w' h hL
  have hQ := fun w' (h : LRow w' bo b.mag) => right_any b bo bcap w' h hM
  cases ha : rightB a <;> rw [ha] at hR
  · obtain ⟨n1, xs, ex⟩ := a
    obtain ⟨n2, ys, ey⟩ := b
    simp only at *
    clear ha h
    go_enter Tryd.func68, Tryd.ntmps68
    go_wp2_with (go_at_call 36; refine (hR _ ((hr.alloc _).alloc _)).mono ?_; rintro e w1 ⟨rfl, b1⟩; obtain ⟨⟨c0, c1, c2⟩, ⟨d0, d1, d2⟩, _⟩ := box2 b1)
    go_ret2
    exact ⟨rfl, box2_old b1⟩
  · have hb : rightB b = false := by
      rcases h with h | h
      · rw [ha] at h; cases h
      · exact h
    rw [hb] at hQ
    obtain ⟨n1, xs, ex⟩ := a
    obtain ⟨n2, ys, ey⟩ := b
    simp only at *
    clear ha h hb
    go_enter Tryd.func68, Tryd.ntmps68
    go_wp2_with (first
      | (go_at_call_of 36 (Value.agg #[.bool n1, .slice ao xs.length cap, .int .i64 ex]); refine (hR _ ((hr.alloc _).alloc _)).mono ?_; rintro e w1 ⟨rfl, b1⟩; obtain ⟨⟨c0, c1, c2⟩, ⟨d0, d1, d2⟩, _⟩ := box2 b1)
      | (go_at_call_of 36 (Value.agg #[.bool n2, .slice bo ys.length bcap, .int .i64 ey]); refine (hQ _ (hs.below (box2_old b1))).mono ?_; rintro e w2 ⟨rfl, b2⟩; have B2 := b1.trans (b2.mono b1.size)))
    go_ret2
    exact ⟨rfl, box2_old B2⟩
theorem cmp_all (a b : Dy) (ao bo : Option Addr) (cap bcap : Nat) (w : World) (hr : LRow w ao a.mag) (hs : LRow w bo b.mag) (hL : Lm a.mag) (hM : Lm b.mag) :
    Calls Tryd.prog 68 #[.agg #[.bool a.neg, .slice ao a.mag.length cap, .int .i64 a.exp], .agg #[.bool b.neg, .slice bo b.mag.length bcap, .int .i64 b.exp]] w fun e w' => e = .returned (.tuple #[.int .i64 (cmpD a b).1, .int .i64 (cmpD a b).2]) ∧ Below w.heap.size w w' := by
  unfold cmpD
  cases ha : rightB a
  · simp only [Bool.false_and, Bool.false_eq_true, if_false]
    exact cmp_arg a b ao bo cap bcap w hr hs hL hM (Or.inl ha)
  · cases hb : rightB b
    · simp only [Bool.and_false, Bool.false_eq_true, if_false]
      exact cmp_arg a b ao bo cap bcap w hr hs hL hM (Or.inr hb)
    · simp only [Bool.and_self, if_true]
      exact Cmp_right a b ao bo cap bcap w hr hs hL hM ha hb
end Go.Proofs.YtbhkgjjogepgnaaDoor

namespace Go.Proofs.YtbhkgjjogepgnaaDoor
open Go.RowKit

/-- The document's number of a finite float. -/
def fl5 (x : Nat) : Dy := ⟨sgn x, lo (spF x), spE x⟩
def C3 (w : World) (b : Nat) (x y z : Value) : Prop := w.cell? ⟨b, 0, none⟩ = some x ∧ w.cell? ⟨b, 1, none⟩ = some y ∧ w.cell? ⟨b, 2, none⟩ = some z ∧ w.frozen? ⟨b, 0, none⟩ = false ∧ w.frozen? ⟨b, 1, none⟩ = false ∧ w.frozen? ⟨b, 2, none⟩ = false ∧ b < w.heap.size
theorem C3.below {w w1 : World} {b : Nat} {x y z : Value} (h : C3 w b x y z) (hb : Below w.heap.size w w1) : C3 w1 b x y z := by
  obtain ⟨h0, h1, h2, g0, g1, g2, h5⟩ := h
  obtain ⟨hc, hf⟩ := oldc hb
  exact ⟨by rw [hc _ _ h5]; exact h0, by rw [hc _ _ h5]; exact h1, by rw [hc _ _ h5]; exact h2, by rw [hf _ _ h5]; exact g0, by rw [hf _ _ h5]; exact g1, by rw [hf _ _ h5]; exact g2, Nat.lt_of_lt_of_le h5 hb.size⟩
theorem C3.alloc {w : World} {b : Nat} {x y z : Value} (h : C3 w b x y z) (o : Obj) : C3 (w.alloc o) b x y z := h.below ((Below.refl _ _).alloc (Nat.le_refl _) o)
theorem C3.new (w : World) (x y z : Value) (t : TypeId) : C3 (w.alloc (.cells #[x, y, z] t)) w.heap.size x y z := by
  refine ⟨?_, ?_, ?_, ?_, ?_, ?_, ?_⟩ <;> go_simp
theorem C3.newAt {w : World} {n : Nat} (hn : w.heap.size = n) (x y z : Value) (t : TypeId) : C3 (w.alloc (.cells #[x, y, z] t)) n x y z := by subst hn; exact C3.new w x y z t
theorem spF_lt (x : Nat) : spF x < 9007199254740992 := by
  unfold spF
  split
  · omega
  · have := mg_lt (rung x)
    exact Nat.lt_of_le_of_lt (Nat.div_le_self _ _) this
theorem fl5_ok (x : Nat) (hf : finB x = true) : Lm (fl5 x).mag ∧ (fl5 x).mag.length ≤ 1 ∧ -65536 ≤ (fl5 x).exp ∧ (fl5 x).exp ≤ 65536 := by
  have h1 := spF_lt x
  have hL : Lm [spF x] := fun y hy => by simp at hy; omega
  have h2 := lo_len hL
  rw [show vl [spF x] = spF x by simp [vl]] at h2
  refine ⟨lo_lm _, h2, ?_, ?_⟩
  · show -65536 ≤ spE x
    unfold spE; split <;> omega
  · show spE x ≤ 65536
    have hr := fin_rung hf
    have hz : spZ x ≤ 64 := by
      unfold spZ Lib.ctz
      split
      · omega
      · have h0 : mg (rung x) ≠ 0 := by assumption
        obtain ⟨_, _, h⟩ := Lib.ctzFrom_spec 64 (mg (rung x)) (by omega) (by have := mg_lt (rung x); omega)
        omega
    have hu : up (rung x) < 2046 := by unfold up; split <;> omega
    unfold spE; split <;> omega
/-- A later world. -/
structure LQ (W : World) where
  val : World
  below : Below W.heap.size W val
theorem region_lq {P : Program} {id : Nat} {Q : Exit → Act → World → Prop} {a : Act} {w : World} {l : List Oper} (hm : P.follows .mixedOrders = true) (hB : Region.lexB .any l.toArray = true)
    (h : wpQuiet P l.toArray (fun w' => ∃ u : LQ w, w' = u.val) (fun a' => ∀ w', (∃ u : LQ w, w' = u.val) → Q .normal a' w') l a) : (Code.region id l.toArray true).wp P Q a w :=
  wp_region_quiet (C := fun w' => ∃ u : LQ w, w' = u.val) hm hB ⟨⟨w.drew, (Below.refl _ _).drew⟩, rfl⟩ h
theorem lq_of {P : Program} {f : Nat} {args : Array Value} {W : World} {u : LQ W} {v : Value} (h : Calls P f args u.val fun e w' => e = .returned v ∧ Below u.val.heap.size u.val w') : Calls P f args u.val fun e w'' => e = .returned v ∧ ∃ u' : LQ W, w'' = u'.val :=
  h.mono fun _ w' ⟨he, hb⟩ => ⟨he, ⟨w', u.below.trans (hb.mono u.below.size)⟩, rfl⟩
theorem LQ.cell {W : World} (u : LQ W) {p : Addr} {v : Value} (h : W.cell? p = some v) : u.val.cell? p = some v := by
  rw [u.below.cell (World.block_lt_of_cell? W _ h)]; exact h
theorem LQ.any (W : World) : Nonempty (LQ W) := ⟨⟨W, Below.refl _ _⟩⟩
/-- Is an exact number one of a right span? -/
def hnB (l u : Nat) (D : Dy) : Bool := (!finB l || decide (¬ 0 < sgI (qd (fl5 l) - qd D))) && (!finB u || decide (sgI (qd D - qd (fl5 u)) ≤ 0))
end Go.Proofs.YtbhkgjjogepgnaaDoor

namespace Go.Proofs.YtbhkgjjogepgnaaDoor
open Go.RowKit

/-- The document's Holds. -/
def hoB (l u : Nat) (d : Dy) : Bool := sRt l u && rightB d && hnB l u ⟨d.neg, lo (vl d.mag), d.exp⟩
end Go.Proofs.YtbhkgjjogepgnaaDoor

namespace Go.Proofs.YtbhkgjjogepgnaaDoor
open Go.RowKit

/-- Which side of a float is an exact number on? -/
def agI (d : Dy) (x : Nat) : Int := if finB x then (cmpD d (ofD x).1).1 else if sgn x then 1 else -1
theorem inf_tests {x : Nat} (hx : x < 18446744073709551616) (nx : nanB x = false) : infB x 1 = (!finB x && !sgn x) ∧ infB x (-1) = (!finB x && sgn x) := by
  have hr : rung x ≤ 9218868437227405312 := by unfold nanB at nx; simpa using nx
  rw [inf_plus hx nx, inf_minus hx nx]
  unfold finB place
  constructor <;> rw [Bool.eq_iff_iff] <;> cases sgn x <;> simp <;> omega
set_option maxHeartbeats 2000000 in
theorem against_any (d : Dy) (x : Nat) (ao : Option Addr) (cap : Nat) (w : World) (hT : TabW w) (hx : x < 18446744073709551616) (nx : nanB x = false) (hr : LRow w ao d.mag) (hL : Lm d.mag) :
    Calls Tryd.prog 40 #[.agg #[.bool d.neg, .slice ao d.mag.length cap, .int .i64 d.exp], .float .f64 x] w fun e w' => e = .returned (.int .i64 (agI d x)) ∧ Below w.heap.size w w' := by
  obtain ⟨t1, t2⟩ := inf_tests hx nx
  have i1 := fun W => isinf_any x 1 (Or.inl rfl) W
  have i2 := fun W => isinf_any x (-1) (Or.inr rfl) W
  rw [t1] at i1
  rw [t2] at i2
  have HE : Hid (agI d x = if finB x then (cmpD d (ofD x).1).1 else if sgn x then 1 else -1) := (show _ = _ from rfl)
  cases fx : finB x
  · rw [fx] at i1 i2 HE
    cases sx : sgn x
    · rw [sx] at i1 i2 HE
      have e : agI d x = -1 := HE.out
      rw [e]
      clear e HE
      go_enter Tryd.func40, Tryd.ntmps40
      go_wp2_with (first | (go_at_call_of 67 (Value.int IntKind.i64 1); refine (i1 _).mono ?_; rintro e w' ⟨rfl, rfl⟩) | (go_at_call 67; refine (i2 _).mono ?_; rintro e w' ⟨rfl, rfl⟩))
      go_ret
      exact ⟨rfl, (Below.refl _ _).alloc (Nat.le_refl _) _⟩
    · rw [sx] at i1 i2 HE
      have e : agI d x = 1 := HE.out
      rw [e]
      clear e HE
      go_enter Tryd.func40, Tryd.ntmps40
      go_wp2_with (first | (go_at_call_of 67 (Value.int IntKind.i64 1); refine (i1 _).mono ?_; rintro e w' ⟨rfl, rfl⟩) | (go_at_call 67; refine (i2 _).mono ?_; rintro e w' ⟨rfl, rfl⟩))
      go_ret
      exact ⟨rfl, (Below.refl _ _).alloc (Nat.le_refl _) _⟩
  · rw [fx] at i1 i2 HE
    have e : agI d x = (cmpD d (ofD x).1).1 := HE.out
    rw [e]
    obtain ⟨_, _, oL, _⟩ := fq_qd fx (K := 64462) rfl
    have cO := fun W h => Of_any x hx W h
    have cC := fun o1 c1 W (h1 : LRow W ao d.mag) (h2 : LRow W o1 (ofD x).1.mag) => cmp_all d (ofD x).1 ao o1 cap c1 W h1 h2 hL oL
    clear e HE oL hL
    generalize (cmpD d (ofD x).1) = rr at *
    obtain ⟨r0, r1⟩ := rr
    generalize ofD x = O at *
    obtain ⟨⟨on, om, oe⟩, oz⟩ := O
    obtain ⟨n, xs, ex⟩ := d
    simp only at *
    have hal : ∀ o, Below w.heap.size w (w.alloc o) := fun o => (Below.refl _ _).alloc (Nat.le_refl _) o
    go_enter Tryd.func40, Tryd.ntmps40
    go_wp2_with (first
      | (go_at_call_of 67 (Value.int IntKind.i64 1); refine (i1 _).mono ?_; rintro e w' ⟨rfl, rfl⟩)
      | (go_at_call 67; refine (i2 _).mono ?_; rintro e w' ⟨rfl, rfl⟩)
      | (go_at_call 34; refine (cO _ (tabW_below hT (hal _))).mono ?_; rintro e v1 ⟨o1, c1, rfl, l1, f1, y1⟩; obtain ⟨kc0, kc1, kc2, _⟩ := ((C3.new _ _ _ _ _).below y1); have z1 := old1 y1; obtain ⟨kd0, kd1, kd2, _⟩ := ((C3.new _ _ _ _ _).below y1).alloc (.cells #[.bool on, .slice o1 om.length c1, .int .i64 oe] 38))
      | (go_at_call 68; refine (cC o1 c1 _ (hr.below (z1.alloc z1.size _)) (l1.below ((Below.refl _ _).alloc (Nat.le_refl _) _))).mono ?_; rintro e v2 ⟨rfl, y2⟩; have z2 := (z1.alloc z1.size (.cells #[.bool on, .slice o1 om.length c1, .int .i64 oe] 38)); have z3 := z2.trans (y2.mono z2.size)))
    go_ret
    exact ⟨rfl, z3⟩
def hpB (l u : Nat) (d : Dy) : Bool := sRt l u && rightB d && decide (0 ≤ agI d l) && decide (agI d u ≤ 0)
theorem sRt_num {l u : Nat} (hl : l < 18446744073709551616) (hu : u < 18446744073709551616) (h : sRt l u = true) : nanB l = false ∧ nanB u = false := by
  constructor
  · cases hn : nanB l
    · rfl
    · rw [sRt_nan hl hu (Or.inl hn)] at h; cases h
  · cases hn : nanB u
    · rfl
    · rw [sRt_nan hl hu (Or.inr hn)] at h; cases h
set_option maxRecDepth 100000 in
set_option maxHeartbeats 4000000 in
theorem sholds_any (l u : Nat) (d : Dy) (ao : Option Addr) (cap : Nat) (w : World) (hT : TabW w) (hl : l < 18446744073709551616) (hu : u < 18446744073709551616) (hr : LRow w ao d.mag) (hL : Lm d.mag) :
    Calls Tryd.prog 21 #[spV l u, .agg #[.bool d.neg, .slice ao d.mag.length cap, .int .i64 d.exp]] w fun e w' => e = .returned (.bool (hpB l u d)) ∧ Below w.heap.size w w' := by
  have r1 := fun W => sright_any l u W
  have r2 := fun W (h : LRow W ao d.mag) => right_any d ao cap W h hL
  have g1 := fun (h : nanB l = false) W (t : TabW W) (g : LRow W ao d.mag) => against_any d l ao cap W t hl h g hL
  have g2 := fun (h : nanB u = false) W (t : TabW W) (g : LRow W ao d.mag) => against_any d u ao cap W t hu h g hL
  have nn := fun h => sRt_num (l := l) (u := u) hl hu h
  have HB : Hid (hpB l u d = (sRt l u && rightB d && decide (0 ≤ agI d l) && decide (agI d u ≤ 0))) := (show _ = _ from rfl)
  generalize hpB l u d = T at *
  generalize agI d l = a1 at *
  generalize agI d u = a2 at *
  generalize sRt l u = s at *
  generalize rightB d = r at *
  obtain ⟨n, xs, ex⟩ := d
  simp only at *
  have P0 : Bx ((w.alloc (.cells #[.float .f64 l, .float .f64 u] 24)).alloc (.cells #[.bool n, .slice ao xs.length cap, .int .i64 ex] 38)) w.heap.size (.float .f64 l) (.float .f64 u) := (Bx.new w _ _ _).alloc _
  have Q0 : C3 ((w.alloc (.cells #[.float .f64 l, .float .f64 u] 24)).alloc (.cells #[.bool n, .slice ao xs.length cap, .int .i64 ex] 38)) (w.heap.size + 1) (.bool n) (.slice ao xs.length cap) (.int .i64 ex) := C3.newAt (by go_simp) _ _ _ _
  have Z0 : Below w.heap.size w ((w.alloc (.cells #[.float .f64 l, .float .f64 u] 24)).alloc (.cells #[.bool n, .slice ao xs.length cap, .int .i64 ex] 38)) := ((Below.refl _ _).alloc (Nat.le_refl _) _).alloc (by simp) _
  have R0 := hr.below Z0
  have T0 := tabW_below hT Z0
  go_enter Tryd.func21, Tryd.ntmps21
  go_upto_region 1 with fail
  generalize (w.alloc (.cells #[.float .f64 l, .float .f64 u] 24)).alloc (.cells #[.bool n, .slice ao xs.length cap, .int .i64 ex] 38) = W at *
  obtain ⟨p, hp⟩ : ∃ p, w.heap.size = p := ⟨_, rfl⟩
  obtain ⟨q, hq⟩ : ∃ q, w.heap.size + 1 = q := ⟨_, rfl⟩
  rw [hp] at P0
  rw [hq] at Q0 ⊢
  rw [show (Value.pointer (some ⟨w.heap.size, 0, none⟩)) = Value.pointer (some ⟨p, 0, none⟩) by rw [hp]]
  clear hp hq hr hL
  obtain ⟨ka0, ka1, _⟩ := id P0
  obtain ⟨kc0, kc1, kc2, _⟩ := id Q0
  cases s
  · clear g1 g2 r2
    go_wp2_with (first | (go_at_call 14; refine (r1 _).mono ?_; rintro e v1 ⟨rfl, y1⟩))
    go_ret
    exact ⟨retB (by rw [HB.out]; rfl), Z0.trans (y1.mono Z0.size)⟩
  · obtain ⟨nl, nu⟩ := nn rfl
    have g1' := g1 nl
    have g2' := g2 nu
    clear g1 g2 nn
    cases r
    · go_wp2_with (first | (go_at_call 14; refine (r1 _).mono ?_; rintro e v1 ⟨rfl, y1⟩; obtain ⟨ka0, ka1, _⟩ := P0.below y1; obtain ⟨kc0, kc1, kc2, _⟩ := Q0.below y1) | (go_at_call 36; refine (r2 _ (R0.below y1)).mono ?_; rintro e v2 ⟨rfl, y2⟩; have z2 := y1.trans (y2.mono y1.size)))
      go_ret
      exact ⟨retB (by rw [HB.out]; rfl), Z0.trans (z2.mono Z0.size)⟩
    · by_cases c1 : 0 ≤ a1
      · by_cases c2 : a2 ≤ 0
        · go_wp2_with (first
            | (go_at_call 14; refine (r1 _).mono ?_; rintro e v1 ⟨rfl, y1⟩; obtain ⟨ka0, ka1, _⟩ := P0.below y1; obtain ⟨kc0, kc1, kc2, _⟩ := Q0.below y1)
            | (go_at_call 36; refine (r2 _ (R0.below y1)).mono ?_; rintro e v2 ⟨rfl, y2⟩; have z2 := y1.trans (y2.mono y1.size); obtain ⟨ka0, ka1, _⟩ := P0.below z2; obtain ⟨kc0, kc1, kc2, _⟩ := Q0.below z2)
            | (go_at_call_of 40 (Value.float FloatKind.f64 u); refine (g2' _ (tabW_below T0 z3) (R0.below z3)).mono ?_; rintro e v4 ⟨rfl, y4⟩; have z4 := z3.trans (y4.mono z3.size))
            | (go_at_call_of 40 (Value.float FloatKind.f64 l); refine (g1' _ (tabW_below T0 z2) (R0.below z2)).mono ?_; rintro e v3 ⟨rfl, y3⟩; have z3 := z2.trans (y3.mono z2.size); obtain ⟨ka0, ka1, _⟩ := P0.below z3; obtain ⟨kc0, kc1, kc2, _⟩ := Q0.below z3))
          go_ret
          exact ⟨retB (by rw [HB.out, decide_eq_true c1, decide_eq_true c2]; rfl), Z0.trans (z4.mono Z0.size)⟩
        · go_wp2_with (first
            | (go_at_call 14; refine (r1 _).mono ?_; rintro e v1 ⟨rfl, y1⟩; obtain ⟨ka0, ka1, _⟩ := P0.below y1; obtain ⟨kc0, kc1, kc2, _⟩ := Q0.below y1)
            | (go_at_call 36; refine (r2 _ (R0.below y1)).mono ?_; rintro e v2 ⟨rfl, y2⟩; have z2 := y1.trans (y2.mono y1.size); obtain ⟨ka0, ka1, _⟩ := P0.below z2; obtain ⟨kc0, kc1, kc2, _⟩ := Q0.below z2)
            | (go_at_call_of 40 (Value.float FloatKind.f64 u); refine (g2' _ (tabW_below T0 z3) (R0.below z3)).mono ?_; rintro e v4 ⟨rfl, y4⟩; have z4 := z3.trans (y4.mono z3.size))
            | (go_at_call_of 40 (Value.float FloatKind.f64 l); refine (g1' _ (tabW_below T0 z2) (R0.below z2)).mono ?_; rintro e v3 ⟨rfl, y3⟩; have z3 := z2.trans (y3.mono z2.size); obtain ⟨ka0, ka1, _⟩ := P0.below z3; obtain ⟨kc0, kc1, kc2, _⟩ := Q0.below z3))
          go_ret
          exact ⟨retB (by rw [HB.out, decide_eq_true c1, decide_eq_false (show ¬ a2 ≤ 0 by omega)]; rfl), Z0.trans (z4.mono Z0.size)⟩
      · go_wp2_with (first
          | (go_at_call 14; refine (r1 _).mono ?_; rintro e v1 ⟨rfl, y1⟩; obtain ⟨ka0, ka1, _⟩ := P0.below y1; obtain ⟨kc0, kc1, kc2, _⟩ := Q0.below y1)
          | (go_at_call 36; refine (r2 _ (R0.below y1)).mono ?_; rintro e v2 ⟨rfl, y2⟩; have z2 := y1.trans (y2.mono y1.size); obtain ⟨ka0, ka1, _⟩ := P0.below z2; obtain ⟨kc0, kc1, kc2, _⟩ := Q0.below z2)
          | (go_at_call_of 40 (Value.float FloatKind.f64 u); refine (g2' _ (tabW_below T0 z3) (R0.below z3)).mono ?_; rintro e v4 ⟨rfl, y4⟩; have z4 := z3.trans (y4.mono z3.size))
          | (go_at_call_of 40 (Value.float FloatKind.f64 l); refine (g1' _ (tabW_below T0 z2) (R0.below z2)).mono ?_; rintro e v3 ⟨rfl, y3⟩; have z3 := z2.trans (y3.mono z2.size); obtain ⟨ka0, ka1, _⟩ := P0.below z3; obtain ⟨kc0, kc1, kc2, _⟩ := Q0.below z3))
        go_ret
        exact ⟨retB (by rw [HB.out, decide_eq_false (show ¬ 0 ≤ a1 by omega)]; rfl), Z0.trans (z3.mono Z0.size)⟩
theorem sg_iff (x : Int) : (0 ≤ sgI x ↔ 0 ≤ x) ∧ (sgI x ≤ 0 ↔ x ≤ 0) ∧ (0 < sgI x ↔ 0 < x) := by
  unfold sgI
  refine ⟨?_, ?_, ?_⟩ <;> (repeat' split) <;> omega
theorem fl5_qd {x : Nat} (hf : finB x = true) : qd (fl5 x) = qd (ofD x).1 := by
  unfold ofD
  rw [if_neg (by rw [hf]; simp)]
  by_cases h0 : spF x = 0
  · rw [if_pos h0]
    have z1 : sv (fl5 x) = 0 := by
      unfold fl5 sv
      simp only [vl_lo, h0]
      cases sgn x <;> rfl
    unfold qd
    rw [z1, show sv dy0 = 0 from rfl, Int.zero_mul, Int.zero_mul]
  · rw [if_neg h0]
    unfold fl5 qd sv
    simp only [vl_lo]
    rw [show vl [spF x] = spF x by simp [vl]]
theorem ho_hp {l u : Nat} {d : Dy} (hl : l < 18446744073709551616) (hu : u < 18446744073709551616) : hoB l u d = hpB l u d := by
  unfold hoB hpB
  cases hs : sRt l u
  · rfl
  · cases hr : rightB d
    · rfl
    · obtain ⟨nl, nu⟩ := sRt_num hl hu hs
      have hd := sRt_doc hl hu nl nu
      rw [hs] at hd
      have hd2 := hd.symm
      simp only [Bool.and_eq_true] at hd2
      have hd3 := hd2.2
      have qx : qd ⟨d.neg, lo (vl d.mag), d.exp⟩ = qd d := by unfold qd sv; simp only [vl_lo]
      have low : (!finB l || decide (¬ 0 < sgI (qd (fl5 l) - qd ⟨d.neg, lo (vl d.mag), d.exp⟩))) = decide (0 ≤ agI d l) := by
        unfold agI
        cases fl : finB l
        · have h1 : place l < 0 := by have := hd3.1; rw [fl] at this; simpa using this
          have h2 : sgn l = true := by unfold place at h1; cases hg : sgn l <;> rw [hg] at h1 <;> simp at h1 ⊢ <;> omega
          rw [h2]; rfl
        · obtain ⟨_, o2, _, _⟩ := fq_qd fl (K := 64462) rfl
          rw [fl5_qd fl, qx]
          unfold cmpD
          rw [hr, o2]
          simp only [Bool.and_self, if_true, Bool.not_true, Bool.false_or]
          rw [decide_eq_decide, (sg_iff _).2.2, (sg_iff _).1]
          omega
      have high : (!finB u || decide (sgI (qd ⟨d.neg, lo (vl d.mag), d.exp⟩ - qd (fl5 u)) ≤ 0)) = decide (agI d u ≤ 0) := by
        unfold agI
        cases fu : finB u
        · have h1 : 0 < place u := by have := hd3.2; rw [fu] at this; simpa using this
          have h2 : sgn u = false := by unfold place at h1; cases hg : sgn u <;> rw [hg] at h1 <;> simp at h1 ⊢ <;> omega
          rw [h2]; rfl
        · obtain ⟨_, o2, _, _⟩ := fq_qd fu (K := 64462) rfl
          rw [fl5_qd fu, qx]
          unfold cmpD
          rw [hr, o2]
          simp only [Bool.and_self, if_true, Bool.not_true, Bool.false_or]
      unfold hnB
      rw [low, high]
      simp
end Go.Proofs.YtbhkgjjogepgnaaDoor

namespace Go.Proofs.YtbhkgjjogepgnaaDoor
open Go.RowKit

set_option maxHeartbeats 1000000 in
theorem inside_w (l u x y r : Nat) (hx : x < 18446744073709551616) (hy : y = if finB x then x else 0) (p q : Bool) (e1 : (FloatKind.f64.format.order y l == some .lt) = p) (e2 : (FloatKind.f64.format.order y u == some .gt) = q) (hr : r = if p then l else if q then u else y) (w : World) :
    Calls Tryd.prog 16 #[spV l u, .float .f64 x] w fun e w' => e = .returned (.float .f64 r) ∧ Below w.heap.size w w' := by
  obtain ⟨c0, c1, _⟩ := Bx.new w (.float .f64 l) (.float .f64 u) 24
  have Z := (Below.refl w.heap.size w).alloc (Nat.le_refl _) (.cells #[.float .f64 l, .float .f64 u] 24)
  cases fx : finB x
  · rw [fx] at hy
    simp only [Bool.false_eq_true, if_false] at hy
    subst hy
    have cf := fun w => fin_no x hx fx w
    cases p <;> cases q <;> simp only [Bool.false_eq_true, if_false, if_true] at hr <;> subst hr <;>
      (go_enter Tryd.func16, Tryd.ntmps16
       go_wp2_with (go_at_call 35; refine (cf _).mono ?_; rintro e w' ⟨rfl, hww⟩; subst hww)
       go_ret
       exact ⟨rfl, Z.drew⟩)
  · rw [fx] at hy
    simp only [if_true] at hy
    subst hy
    have cf := fun w => fin_yes y hx fx w
    cases p <;> cases q <;> simp only [Bool.false_eq_true, if_false, if_true] at hr <;> subst hr <;>
      (go_enter Tryd.func16, Tryd.ntmps16
       go_wp2_with (go_at_call 35; refine (cf _).mono ?_; rintro e w' ⟨rfl, hww⟩; subst hww)
       go_ret
       exact ⟨rfl, Z⟩)
theorem inside_C {a : Nat × Nat} (h : RtP a) (x : Nat) (hx : x < 18446744073709551616) : ∃ r, Of1 r a ∧ ∀ w, Calls Tryd.prog 16 #[spV a.1 a.2, .float .f64 x] w fun e w' => e = .returned (.float .f64 r) ∧ Below w.heap.size w w' := by
  obtain ⟨y, hy⟩ : ∃ y, y = if finB x then x else 0 := ⟨_, rfl⟩
  have fy : Fn y ∧ finB y = true := by
    cases f : finB x <;> rw [f] at hy
    · simp only [Bool.false_eq_true, if_false] at hy; subst hy; exact ⟨⟨by omega, rfl⟩, rfl⟩
    · simp only [if_true] at hy; subst hy
      exact ⟨⟨hx, by have := fin_rung f; unfold nanB; simp; omega⟩, f⟩
  obtain ⟨F1, F2⟩ := h.fn
  obtain ⟨p1, p2, p3⟩ := h.pl
  have pf := pl_fin fy.2
  have e1 := lt_num fy.1.1 F1.1 fy.1.2 F1.2
  have e2 := gt_num fy.1.1 F2.1 fy.1.2 F2.2
  refine ⟨_, ?_, fun w => inside_w a.1 a.2 x y _ hx hy _ _ e1 e2 rfl w⟩
  by_cases q1 : place y < place a.1
  · rw [decide_eq_true q1, if_pos rfl]
    exact ⟨F1, fin_mid F1 p2 (by omega), Int.le_refl _, p1⟩
  · rw [decide_eq_false q1]
    simp only [Bool.false_eq_true, if_false]
    by_cases q2 : place a.2 < place y
    · rw [decide_eq_true q2, if_pos rfl]
      exact ⟨F2, fin_mid F2 (by omega) p3, p1, Int.le_refl _⟩
    · rw [decide_eq_false q2]
      simp only [Bool.false_eq_true, if_false]
      exact ⟨fy.1, fy.2, by omega, by omega⟩
theorem nbox {w w1 : World} {o : Obj} (B6 : Below (w.alloc o).heap.size (w.alloc o) w1) : Below w.heap.size w w1 := old1 B6
set_option maxHeartbeats 1000000 in
theorem number_any (x : Nat) (D : Dy) (hx : x < 18446744073709551616) (eD : ofD x = (D, 0)) (w : World) (hT : TabW w) :
    Calls Tryd.prog 15 #[.float .f64 x] w (GaveD w D) := by
  have ox := fun w h => Of_any x hx w h
  rw [eD] at ox
  clear eD
  go_enter Tryd.func15, Tryd.ntmps15
  go_upto_region 2 with (go_at_call 34; refine (ox _ (tabW_alloc hT _)).mono ?_; rintro e w1 ⟨ax, cx, rfl, r1, f1, b1⟩)
  have R0 : Hd (w.alloc (.cells #[.bool false, .slice none 0 0, .int .i64 0] 38)) w.heap.size dy0 none 0 := Hd.new (d := dy0) (Or.inl rfl)
  have Z0 : Fzr (w.alloc (.cells #[.bool false, .slice none 0 0, .int .i64 0] 38)) w.heap.size := fz_new _ _ _ _
  have lt0 : w.heap.size < (w.alloc (.cells #[.bool false, .slice none 0 0, .int .i64 0] 38)).heap.size := by simp
  have B6 := b1.alloc b1.size (.cells #[.bool D.neg, .slice ax D.mag.length cx, .int .i64 D.exp] 38)
  have R1 := R0.below B6
  have Z1 := Z0.below lt0 B6
  have B7 := old1 B6
  have E6 := Hd.new (cap := cx) r1
  have e0 := E6.c0
  have e1 := E6.c1
  have e2 := E6.c2
  have c0 := R1.c0
  have c1 := R1.c1
  have c2 := R1.c2
  obtain ⟨g0, g1, g2⟩ := Z1
  have hfr : Frs (w.heap.size + 1) ax := f1.mono (by simp)
  go_wp2
  exact bodyPost_ret (v := .agg #[.bool D.neg, .slice ax D.mag.length cx, .int .i64 D.exp]) (by simp [results, Tryd.results15, go_sem, c0, c1, c2]) rfl ⟨ax, cx, rfl, (((E6.row).box hfr (by omega) _ _).box hfr (by omega) _ _).box hfr (by omega) _ _, hfr.mono (by omega), ((B7.setCell (Nat.le_refl _) _).setCell (Nat.le_refl _) _).setCell (Nat.le_refl _) _⟩
/-- Holds, by exact numbers. -/
theorem holds_C {p : Nat × Nat} {D : Dy} {X : Int} (hp : RtP p) (h : Fd D X) (hX : HoX p X) (ao : Option Addr) (cap : Nat) (w : World) (hT : TabW w) (r : LRow w ao D.mag) :
    Calls Tryd.prog 21 #[spV p.1 p.2, .agg #[.bool D.neg, .slice ao D.mag.length cap, .int .i64 D.exp]] w fun e w' => e = .returned (.bool true) ∧ Below w.heap.size w w' := by
  have c := sholds_any p.1 p.2 D ao cap w hT hp.1 hp.2.1 r h.2.1
  have k : ∀ x, finB x = true → agI D x = sgI (X - vI x * 2 ^ twP) := fun x fx => by
    obtain ⟨E, eE, FE⟩ := fd_of fx
    unfold agI
    rw [fx, if_pos rfl, eE]
    show (cmpD D E).1 = _
    rw [← fd_cmp h FE]
    unfold cmpD
    rw [h.1, FE.1]
    rfl
  have e : hpB p.1 p.2 D = true := by
    unfold hpB
    rw [hp.2.2, h.1]
    have a1 : 0 ≤ agI D p.1 := by
      cases f : finB p.1
      · unfold agI; rw [f]; simp only [Bool.false_eq_true, if_false]; rw [(lo_inf hp.fn.1 hp.pl.2.1 f).1]; simp
      · rw [k _ f, (sg_iff _).1]; have := hX.1 f; omega
    have a2 : agI D p.2 ≤ 0 := by
      cases f : finB p.2
      · unfold agI; rw [f]; simp only [Bool.false_eq_true, if_false]; rw [(hi_inf hp.fn.2 hp.pl.2.2 f).1]; simp
      · rw [k _ f, (sg_iff _).2.1]; have := hX.2 f; omega
    simp [a1, a2]
  rw [e] at c
  exact c
end Go.Proofs.YtbhkgjjogepgnaaDoor

namespace Go.Proofs.YtbhkgjjogepgnaaDoor
open Go.RowKit

abbrev C2 (F : Nat) (p q r : Nat × Nat) (n : Int) : Prop := ∀ w, TabW w → Calls Tryd.prog F #[spV p.1 p.2, spV q.1 q.2] w fun e w' => e = .returned (.tuple #[spV r.1 r.2, .int .i64 n]) ∧ Below w.heap.size w w'
abbrev C1 (F : Nat) (p r : Nat × Nat) (n : Int) : Prop := ∀ w, TabW w → Calls Tryd.prog F #[spV p.1 p.2] w fun e w' => e = .returned (.tuple #[spV r.1 r.2, .int .i64 n]) ∧ Below w.heap.size w w'
theorem add_C {p q : Nat × Nat} (h : RtP p) (g : RtP q) : C2 8 p q (adP p q) 0 := by
  obtain ⟨na, nb, fa, fb, _⟩ := rt_facts h.1 h.2.1 h.2.2
  obtain ⟨nc, nd, fc, fd, _⟩ := rt_facts g.1 g.2.1 g.2.2
  have o1 := addS_ok h.1 g.1 na nc (by rcases fa with h | h <;> rcases fc with g | g <;> simp [h, g])
  have o2 := addS_ok h.2.1 g.2.1 nb nd (by rcases fb with h | h <;> rcases fd with g | g <;> simp [h, g])
  exact fun w hT => sadd_B p.1 p.2 q.1 q.2 _ _ h.2.2 g.2.2 (radd_P 1 h.1 g.1 o1).2 (radd_P 2 h.2.1 g.2.1 o2).2 w hT
theorem sub_C {p q : Nat × Nat} (h : RtP p) (g : RtP q) : C2 10 p q (adP p (ngP q)) 0 := by
  have k := ngP_rt g
  obtain ⟨na, nb, fa, fb, _⟩ := rt_facts h.1 h.2.1 h.2.2
  obtain ⟨nc, nd, fc, fd, _⟩ := rt_facts k.1 k.2.1 k.2.2
  have o1 := addS_ok h.1 k.1 na nc (by rcases fa with h | h <;> rcases fc with g | g <;> simp [h, g])
  have o2 := addS_ok h.2.1 k.2.1 nb nd (by rcases fb with h | h <;> rcases fd with g | g <;> simp [h, g])
  exact fun w hT => ssub_B p.1 p.2 q.1 q.2 _ _ h.2.2 g.2.2 (rsub_P 1 h.1 g.2.1 o1).2 (rsub_P 2 h.2.1 g.1 o2).2 w hT
theorem mul_C {p q : Nat × Nat} (h : RtP p) (g : RtP q) : C2 9 p q (muP p q) 0 := fun w hT => smul_B p.1 p.2 q.1 q.2 tB h.2.2 g.2.2 (corn_mulP h.1 h.2.1 g.1 g.2.1 h.2.2 g.2.2) w hT
theorem div_C {p q : Nat × Nat} (h : RtP p) (g : RtP q) (h0 : (leF q.1 0 && leF 0 q.2) = false) : C2 11 p q (diP p q) 0 := fun w hT => sdiv_B p.1 p.2 q.1 q.2 oB h.2.2 g.2.2 (by rw [g.2.2, show finB 0 = true by decide]; simpa using h0) (corn_divP h.1 h.2.1 g.1 g.2.1 h.2.2 g.2.2 h0) w hT
theorem div_C0 {p q : Nat × Nat} (h : RtP p) (g : RtP q) (h0 : (leF q.1 0 && leF 0 q.2) = true) : C2 11 p q (0, 0) 7 := fun w _ => sdiv_zero p.1 p.2 q.1 q.2 h.2.2 g.2.2 (by rw [g.2.2, show finB 0 = true by decide]; simpa using h0) w
theorem ord_gt0 {x : Nat} (h : Fn x) : (FloatKind.f64.format.order x 0 == some .gt) = decide (0 < place x) := by
  rw [gt_num h.1 (by omega) h.2 (by decide)]; rfl
theorem ord_lt0 {x : Nat} (h : Fn x) : (FloatKind.f64.format.order x 0 == some .lt) = decide (place x < 0) := by
  rw [lt_num h.1 (by omega) h.2 (by decide)]; rfl
theorem abs_C {p : Nat × Nat} (h : RtP p) : C1 31 p (abP p) 0 := by
  have g1 := ord_gt0 h.fn.1
  have g2 := ord_lt0 h.fn.2
  unfold abP
  split
  · rename_i q
    exact fun w _ => sabs_above p.1 p.2 h.1 h.2.1 h.2.2 (by rw [g1]; simpa using q) w
  · split
    · rename_i q1 q2
      exact fun w _ => sabs_below p.1 p.2 h.1 h.2.1 h.2.2 (by rw [g1]; simpa using q1) (by rw [g2]; simpa using q2) w
    · rename_i q1 q2
      exact fun w _ => sabs_mid p.1 p.2 h.1 h.2.1 h.2.2 (by rw [g1]; simpa using q1) (by rw [g2]; simpa using q2) w
theorem square_C {p : Nat × Nat} (h : RtP p) : C1 12 p (squP p) 0 := by
  obtain ⟨f1, f2, _⟩ := abP_size h
  exact fun w hT => ssquare_B p.1 p.2 (abP p).1 (abP p).2 _ _ (abs_C h) (rmul_P 1 f1.1 f1.1 (mulB_self 1 f1).2).2 (rmul_P 2 f2.1 f2.1 (mulB_self 2 f2).2).2 w hT
theorem sqrt_C {p : Nat × Nat} (h : RtP p) (h0 : 0 ≤ place p.1) : C1 13 p (sqP p) 0 := by
  have g := ord_lt0 h.fn.1
  have := h.pl.1
  exact fun w hT => ssqrt_B p.1 p.2 _ _ h.1 h.2.1 h.2.2 (by rw [g]; simpa using h0) (rsqrt_P 1 h.1 (root_ok h.fn.1 h0)).2 (rsqrt_P 2 h.2.1 (root_ok h.fn.2 (by omega))).2 w hT
theorem sqrt_C0 {p : Nat × Nat} (h : RtP p) (h0 : ¬ 0 ≤ place p.1) : C1 13 p (0, 0) 2 := by
  have g := ord_lt0 h.fn.1
  exact fun w _ => ssqrt_not p.1 p.2 h.1 h.2.1 (Or.inr (by rw [g]; simpa using h0)) w
theorem in_C {p q : Nat × Nat} (hp : RtP p) (hq : RtP q) (h : Wt p q) : ∀ w, Calls Tryd.prog 7 #[spV p.1 p.2, spV q.1 q.2] w fun e w' => e = .returned (.bool true) ∧ Below w.heap.size w w' := fun w => by
  have := sin_any p.1 p.2 q.1 q.2 w
  have e : (sRt p.1 p.2 && sRt q.1 q.2 && leF q.1 p.1 && leF p.2 q.2) = true := inB_mk hp hq h
  rw [e] at this
  exact this
theorem meet_C (p q : Nat × Nat) (p1 : p.1 < 18446744073709551616) (p2 : p.2 < 18446744073709551616) (q1 : q.1 < 18446744073709551616) (q2 : q.2 < 18446744073709551616) :
    ∃ x n, C2 6 p q x n ∧ ((n = 0 ∧ RtP p ∧ RtP q ∧ RtP x ∧ Wt x p ∧ Wt x q) ∨ (n != 0) = true) := by
  cases hr : (sRt p.1 p.2 && sRt q.1 q.2)
  · exact ⟨(0, 0), 2, fun w _ => smeet_not p.1 p.2 q.1 q.2 hr w, Or.inr rfl⟩
  · have ra : sRt p.1 p.2 = true := by revert hr; cases sRt p.1 p.2 <;> simp
    have rb : sRt q.1 q.2 = true := by revert hr; cases sRt p.1 p.2 <;> simp
    have hp : RtP p := ⟨p1, p2, ra⟩
    have hq : RtP q := ⟨q1, q2, rb⟩
    cases k : (FloatKind.f64.format.order (grF p.1 q.1) (lsF p.2 q.2) == some .gt)
    · refine ⟨(grF p.1 q.1, lsF p.2 q.2), 0, fun w _ => smeet_yes p.1 p.2 q.1 q.2 _ _ false rfl rfl k p1 p2 q1 q2 hr w, Or.inl ⟨rfl, hp, hq, ?_⟩⟩
      obtain ⟨g0, g1, g2⟩ := grF_fn hp.fn.1 hq.fn.1
      obtain ⟨l0, l1, l2⟩ := lsF_fn hp.fn.2 hq.fn.2
      rw [gt_num g0.1 l0.1 g0.2 l0.2] at k
      have k' : place (grF p.1 q.1) ≤ place (lsF p.2 q.2) := by simpa using k
      have e1 : place (grF p.1 q.1) = place p.1 ∨ place (grF p.1 q.1) = place q.1 := by rcases grF_two p.1 q.1 with h | h <;> rw [h] <;> simp
      have e2 : place (lsF p.2 q.2) = place p.2 ∨ place (lsF p.2 q.2) = place q.2 := by rcases lsF_two p.2 q.2 with h | h <;> rw [h] <;> simp
      have hp' := hp.pl
      have hq' := hq.pl
      exact ⟨RtP.mk g0 l0 k' (by simp only; omega) (by simp only; omega), ⟨g1, l1⟩, ⟨g2, l2⟩⟩
    · exact ⟨(0, 0), 150, fun w _ => smeet_yes p.1 p.2 q.1 q.2 _ _ true rfl rfl k p1 p2 q1 q2 hr w, Or.inr rfl⟩
end Go.Proofs.YtbhkgjjogepgnaaDoor
