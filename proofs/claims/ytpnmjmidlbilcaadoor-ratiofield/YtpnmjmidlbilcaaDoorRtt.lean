/- Sums, differences, products, quotients of ratios, in any order and grouping: the plain part of RatioField; no program in this text. -/
import Derived.Test.YtpnmjmidlbilcaaDoorRts
namespace Go.Proofs.YtpnmjmidlbilcaaDoor
open Go.RowKit

/-- What Add, Sub, Mul, Div tell of right ratios: a ratio, or none if it is too long. -/
def adO (a b : Bool × Nat × Nat) : Option (Bool × Nat × Nat) := (nmA (smQ a.1 b.1 (a.2.1 * b.2.2) (b.2.1 * a.2.2)).1 (smQ a.1 b.1 (a.2.1 * b.2.2) (b.2.1 * a.2.2)).2 (a.2.2 * b.2.2)).1
def sbO (a b : Bool × Nat × Nat) : Option (Bool × Nat × Nat) := (nmA (smQ a.1 (!b.1) (a.2.1 * b.2.2) (b.2.1 * a.2.2)).1 (smQ a.1 (!b.1) (a.2.1 * b.2.2) (b.2.1 * a.2.2)).2 (a.2.2 * b.2.2)).1
def mlO (a b : Bool × Nat × Nat) : Option (Bool × Nat × Nat) := (nmA (a.1 != b.1) (a.2.1 * b.2.1) (a.2.2 * b.2.2)).1
def dvO (a b : Bool × Nat × Nat) : Option (Bool × Nat × Nat) := (nmA (a.1 != b.1) (a.2.1 * b.2.2) (a.2.2 * b.2.1)).1
/-- A right one. -/
abbrev Rq3 (a : Bool × Nat × Nat) : Prop := RqB a.1 a.2.1 a.2.2
/-- Its value: a whole number over another one. -/
def pQ (a : Bool × Nat × Nat) : Int := pz a.1 a.2.1
def dQ (a : Bool × Nat × Nat) : Int := (a.2.2 : Int)
theorem dQ_pos {a : Bool × Nat × Nat} (h : Rq3 a) : 0 < dQ a := by have := h.d0; unfold dQ; omega
/-- What is told of some value. -/
structure TellsQ (o : Option (Bool × Nat × Nat)) (P Q : Int) : Prop where
  ex : ∃ (s : Bool) (Z R : Nat), o = (nmA s Z R).1 ∧ R ≠ 0 ∧ pz s Z = P ∧ (R : Int) = Q
theorem TellsQ.same {o p : Option (Bool × Nat × Nat)} {P Q P' Q' : Int} (h : TellsQ o P Q) (k : TellsQ p P' Q') (e : P * Q' = P' * Q) : o = p := by
  obtain ⟨s, Z, R, rfl, hR, rfl, rfl⟩ := h.ex
  obtain ⟨t, Y, S, rfl, hS, rfl, rfl⟩ := k.ex
  rw [nmA_val hR hS e]
theorem TellsQ.some {o : Option (Bool × Nat × Nat)} {P Q : Int} {r : Bool × Nat × Nat} (h : TellsQ o P Q) (e : o = .some r) : pQ r * Q = P * dQ r ∧ Rq3 r := by
  obtain ⟨s, Z, R, rfl, hR, rfl, rfl⟩ := h.ex
  obtain ⟨n, N, D⟩ := r
  obtain ⟨o', er, hn⟩ : ∃ o' er, nmA s Z R = (o', er) := ⟨_, _, rfl⟩
  rw [hn] at e
  dsimp only at e
  subst e
  exact ⟨nmA_is hR hn, nmA_right hn⟩
theorem TellsQ.self {a : Bool × Nat × Nat} (h : Rq3 a) : TellsQ (.some a) (pQ a) (dQ a) := ⟨a.1, a.2.1, a.2.2, (nmA_self h).symm, h.d0, rfl, rfl⟩
section
variable {a b c : Bool × Nat × Nat}
theorem adO_tells (ha : Rq3 a) (hb : Rq3 b) : TellsQ (adO a b) (pQ a * dQ b + pQ b * dQ a) (dQ a * dQ b) :=
  ⟨_, _, _, rfl, Nat.mul_ne_zero ha.d0 hb.d0, by rw [smQ_add, pz_mul, pz_mul]; rfl, by rw [Int.natCast_mul]; rfl⟩
theorem sbO_tells (ha : Rq3 a) (hb : Rq3 b) : TellsQ (sbO a b) (pQ a * dQ b - pQ b * dQ a) (dQ a * dQ b) :=
  ⟨_, _, _, rfl, Nat.mul_ne_zero ha.d0 hb.d0, by rw [smQ_eq, pz_mul, pz_mul]; rfl, by rw [Int.natCast_mul]; rfl⟩
theorem mlO_tells (ha : Rq3 a) (hb : Rq3 b) : TellsQ (mlO a b) (pQ a * pQ b) (dQ a * dQ b) :=
  ⟨_, _, _, rfl, Nat.mul_ne_zero ha.d0 hb.d0, by rw [pz_prod]; rfl, by rw [Int.natCast_mul]; rfl⟩
theorem ad_comm (ha : Rq3 a) (hb : Rq3 b) : adO a b = adO b a := (adO_tells ha hb).same (adO_tells hb ha) (by grind)
theorem ml_comm (ha : Rq3 a) (hb : Rq3 b) : mlO a b = mlO b a := (mlO_tells ha hb).same (mlO_tells hb ha) (by grind)
theorem ad_assoc {r s : Bool × Nat × Nat} (ha : Rq3 a) (hb : Rq3 b) (hc : Rq3 c) (h1 : adO a b = some r) (h2 : adO b c = some s) : adO r c = adO a s := by
  obtain ⟨e1, hr⟩ := (adO_tells ha hb).some h1
  obtain ⟨e2, hs⟩ := (adO_tells hb hc).some h2
  refine (adO_tells hr hc).same (adO_tells ha hs) ?_
  have pb := dQ_pos hb
  refine Int.eq_of_mul_eq_mul_right (a := dQ b) (by omega) ?_
  grind
theorem sb_back {r : Bool × Nat × Nat} (ha : Rq3 a) (hb : Rq3 b) (h1 : adO a b = some r) : sbO r b = some a := by
  obtain ⟨e1, hr⟩ := (adO_tells ha hb).some h1
  refine (sbO_tells hr hb).same (TellsQ.self ha) ?_
  grind
theorem ml_sum {s x y : Bool × Nat × Nat} (ha : Rq3 a) (hb : Rq3 b) (hc : Rq3 c) (h1 : adO b c = some s) (h2 : mlO a b = some x) (h3 : mlO a c = some y) : mlO a s = adO x y := by
  obtain ⟨e1, hs⟩ := (adO_tells hb hc).some h1
  obtain ⟨e2, hx⟩ := (mlO_tells ha hb).some h2
  obtain ⟨e3, hy⟩ := (mlO_tells ha hc).some h3
  refine (mlO_tells ha hs).same (adO_tells hx hy) ?_
  have pa := dQ_pos ha
  have pb := dQ_pos hb
  have pc := dQ_pos hc
  refine Int.eq_of_mul_eq_mul_right (a := dQ a * (dQ b * dQ c)) (Int.ne_of_gt (Int.mul_pos pa (Int.mul_pos pb pc))) ?_
  grind
end
end Go.Proofs.YtpnmjmidlbilcaaDoor
