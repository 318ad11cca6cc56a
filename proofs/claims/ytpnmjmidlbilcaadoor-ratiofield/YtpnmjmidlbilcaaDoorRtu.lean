/- Ratios: one contract for what fits and what is too long. -/
import Derived.Test.YtpnmjmidlbilcaaDoorRtt
namespace Go.Proofs.YtpnmjmidlbilcaaDoor
open Go.RowKit

def oT (o : Option (Bool × Nat × Nat)) : Bool × Nat × Nat := o.getD (false, 0, 0)
def oE (o : Option (Bool × Nat × Nat)) : Int := if o.isSome then 0 else 3
/-- A ratio handed back, or none that was too long. -/
def GaveU (w : World) (n : Bool) (N D : Nat) (er : Int) (e : Ending) (w' : World) : Prop :=
  ∃ ao ac bo bc, e = .returned (.tuple #[.agg #[.bool n, .slice ao (nl N) ac, .slice bo (nl D) bc], .int .i64 er]) ∧ LS w' ao ac (lo N) ∧ LS w' bo bc (lo D) ∧ Below w.heap.size w w'
theorem gaveU_of {w : World} {s : Bool} {Z Q : Nat} (hQ : Q ≠ 0) {n : Bool} {N D : Nat} {er : Int} (h1 : oT (nmA s Z Q).1 = (n, N, D)) (h2 : oE (nmA s Z Q).1 = er) (e : Ending) (w' : World) (h : GaveR w (nmA s Z Q).1 (nmA s Z Q).2 e w') : GaveU w n N D er e w' := by
  obtain ⟨o, k, hn⟩ : ∃ o k, nmA s Z Q = (o, k) := ⟨_, _, rfl⟩
  rw [hn] at h h1 h2
  dsimp only at h1 h2
  cases o with
  | none =>
    have hk : k = 3 := by
      unfold nmA at hn
      rw [if_neg hQ] at hn
      (repeat' split at hn) <;> simp at hn <;> omega
    subst hk
    obtain ⟨rfl, hb⟩ := h
    cases h1
    subst h2
    exact ⟨none, 0, none, 0, rfl, ⟨Or.inl rfl, Nat.le_refl _, fun _ => rfl⟩, ⟨Or.inl rfl, Nat.le_refl _, fun _ => rfl⟩, hb⟩
  | some r =>
    obtain ⟨n', N', D'⟩ := r
    cases h1
    subst h2
    exact h
section
variable (n1 n2 : Bool) (N1 D1 N2 D2 : Nat) (ao1 bo1 ao2 bo2 : Option Addr) (ac1 bc1 ac2 bc2 : Nat) (w : World) (a1 : LS w ao1 ac1 (lo N1)) (b1 : LS w bo1 bc1 (lo D1)) (a2 : LS w ao2 ac2 (lo N2)) (b2 : LS w bo2 bc2 (lo D2)) (hT : TabW w) (R1 : RqB n1 N1 D1) (R2 : RqB n2 N2 D2) (n : Bool) (N D : Nat) (er : Int)
include a1 b1 a2 b2 hT R1 R2
theorem addU (h1 : oT (adO (n1, N1, D1) (n2, N2, D2)) = (n, N, D)) (h2 : oE (adO (n1, N1, D1) (n2, N2, D2)) = er) :
    Calls Tryd.prog 12 #[.agg #[.bool n1, .slice ao1 (nl N1) ac1, .slice bo1 (nl D1) bc1], .agg #[.bool n2, .slice ao2 (nl N2) ac2, .slice bo2 (nl D2) bc2]] w (GaveU w n N D er) :=
  (raddr_any n1 n2 N1 D1 N2 D2 ao1 bo1 ao2 bo2 ac1 bc1 ac2 bc2 w a1 b1 a2 b2 hT R1 R2).mono (gaveU_of (Nat.mul_ne_zero R1.d0 R2.d0) h1 h2)
theorem subU (h1 : oT (sbO (n1, N1, D1) (n2, N2, D2)) = (n, N, D)) (h2 : oE (sbO (n1, N1, D1) (n2, N2, D2)) = er) :
    Calls Tryd.prog 26 #[.agg #[.bool n1, .slice ao1 (nl N1) ac1, .slice bo1 (nl D1) bc1], .agg #[.bool n2, .slice ao2 (nl N2) ac2, .slice bo2 (nl D2) bc2]] w (GaveU w n N D er) :=
  (rsubr_any n1 n2 N1 D1 N2 D2 ao1 bo1 ao2 bo2 ac1 bc1 ac2 bc2 w a1 b1 a2 b2 hT R1 R2).mono (gaveU_of (Nat.mul_ne_zero R1.d0 R2.d0) h1 h2)
theorem mulU (h1 : oT (mlO (n1, N1, D1) (n2, N2, D2)) = (n, N, D)) (h2 : oE (mlO (n1, N1, D1) (n2, N2, D2)) = er) :
    Calls Tryd.prog 24 #[.agg #[.bool n1, .slice ao1 (nl N1) ac1, .slice bo1 (nl D1) bc1], .agg #[.bool n2, .slice ao2 (nl N2) ac2, .slice bo2 (nl D2) bc2]] w (GaveU w n N D er) :=
  (rmulr_any n1 n2 N1 D1 N2 D2 ao1 bo1 ao2 bo2 ac1 bc1 ac2 bc2 w a1 b1 a2 b2 hT R1 R2).mono (gaveU_of (Nat.mul_ne_zero R1.d0 R2.d0) h1 h2)
theorem divU (hN2 : N2 ≠ 0) (h1 : oT (dvO (n1, N1, D1) (n2, N2, D2)) = (n, N, D)) (h2 : oE (dvO (n1, N1, D1) (n2, N2, D2)) = er) :
    Calls Tryd.prog 13 #[.agg #[.bool n1, .slice ao1 (nl N1) ac1, .slice bo1 (nl D1) bc1], .agg #[.bool n2, .slice ao2 (nl N2) ac2, .slice bo2 (nl D2) bc2]] w (GaveU w n N D er) :=
  (rdivr_any n1 n2 N1 D1 N2 D2 ao1 bo1 ao2 bo2 ac1 bc1 ac2 bc2 w a1 b1 a2 b2 hT R1 R2 hN2).mono (gaveU_of (Nat.mul_ne_zero R1.d0 hN2) h1 h2)
end
/-- like of what is the same, or too long. -/
theorem likeU {o p : Option (Bool × Nat × Nat)} {n m : Bool} {N D M E : Nat} {e f : Int} (h1 : oT o = (n, N, D)) (h2 : oE o = e) (h3 : oT p = (m, M, E)) (h4 : oE p = f) (hs : o = p) (hr : ∀ r, o = some r → Rq3 r) (ao1 bo1 ao2 bo2 : Option Addr) (ac1 bc1 ac2 bc2 : Nat) (w : World) (a1 : LS w ao1 ac1 (lo N)) (b1 : LS w bo1 bc1 (lo D)) (a2 : LS w ao2 ac2 (lo M)) (b2 : LS w bo2 bc2 (lo E)) (hT : TabW w) :
    Calls Tryd.prog 25 #[.agg #[.bool n, .slice ao1 (nl N) ac1, .slice bo1 (nl D) bc1], .int .i64 e, .agg #[.bool m, .slice ao2 (nl M) ac2, .slice bo2 (nl E) bc2], .int .i64 f] w fun e w' => e = .returned (.bool true) ∧ Below w.heap.size w w' := by
  subst hs
  rw [h1] at h3
  rw [h2] at h4
  cases h3
  subst h4
  cases o with
  | none =>
    subst h2
    exact like_one _ _ _ _ _ _ _ w
  | some r =>
    subst h2
    cases h1
    exact like_same n N D ao1 bo1 ao2 bo2 ac1 bc1 ac2 bc2 w a1 b1 a2 b2 hT (hr _ rfl)
theorem dv_back {a b r : Bool × Nat × Nat} (ha : Rq3 a) (hb : Rq3 b) (hN : b.2.1 ≠ 0) (h1 : mlO a b = some r) : dvO r b = some a := by
  obtain ⟨e1, hr⟩ := (mlO_tells ha hb).some h1
  have t : TellsQ (dvO r b) (pQ r * pz b.1 b.2.2) (dQ r * (b.2.1 : Int)) := ⟨_, _, _, rfl, Nat.mul_ne_zero hr.d0 hN, by rw [pz_prod]; rfl, by rw [Int.natCast_mul]; rfl⟩
  refine t.same (TellsQ.self ha) ?_
  unfold pQ dQ pz at *
  cases hb1 : b.1 <;> simp only [hb1, if_true, if_false, Bool.false_eq_true] at * <;> grind
end Go.Proofs.YtpnmjmidlbilcaaDoor
