/- DyadBetween for any dyad: every case. -/
import Derived.Test.YtjdhadpfhnmkhaaDoorLe
import Derived.Test.YtjdhadpfhnmkhaaDoorHy
namespace Go.Proofs.YtjdhadpfhnmkhaaDoor
open Go.RowKit

theorem rnd_un {d : Dy} (hn : d.mag.length ≠ 0) (m : Int) : rndW d m = if d.neg then 9223372036854775808 + rSz (vl d.mag) d.exp (szm d.neg m) else rSz (vl d.mag) d.exp (szm d.neg m) := by
  unfold rndW; rw [if_neg hn]
theorem sgD_un {d : Dy} (hn : d.mag.length ≠ 0) : sgD d = if d.neg then -1 else 1 := by unfold sgD; rw [if_neg hn]
theorem qd_un (d : Dy) : qd d = if d.neg then -((vl d.mag * 2 ^ (d.exp + 65536).toNat : Nat) : Int) else ((vl d.mag * 2 ^ (d.exp + 65536).toNat : Nat) : Int) := by
  unfold qd sv
  cases d.neg
  · simp
  · simp [Int.neg_mul]
theorem fin_small {s : Nat} (h : s < 9218868437227405312) : rung s = s ∧ sgn s = false := ⟨rung_small (by omega), sgn_small (by omega)⟩
theorem fin_big {s : Nat} (h : s < 9223372036854775808) : rung (9223372036854775808 + s) = s ∧ sgn (9223372036854775808 + s) = true := by
  unfold rung sgn; exact ⟨by omega, by simp⟩
/-- The numbers: what lies between its two neighbours, and which is nearer. -/
theorem btw_nums {B R D E : Nat} (h0 : 0 < R) (h1 : R < D) (hE : 0 < E) :
    B * E < (B + R) * E ∧ (B + R) * E < (B + D) * E ∧ ((B + R) * E - B * E < (B + D) * E - (B + R) * E → 2 * R < D) ∧ ((B + D) * E - (B + R) * E < (B + R) * E - B * E → D < 2 * R) := by
  have e1 : (B + R) * E = B * E + R * E := Nat.add_mul _ _ _
  have e2 : (B + D) * E = B * E + D * E := Nat.add_mul _ _ _
  have hY : 0 < R * E := Nat.mul_pos h0 hE
  have hZ : R * E < D * E := (Nat.mul_lt_mul_right hE).2 h1
  have c1 : ¬ 2 * R < D → D * E ≤ 2 * (R * E) := fun h => by
    have := Nat.mul_le_mul_right E (show D ≤ 2 * R by omega)
    rw [Nat.mul_assoc] at this; exact this
  have c2 : ¬ D < 2 * R → 2 * (R * E) ≤ D * E := fun h => by
    have := Nat.mul_le_mul_right E (show 2 * R ≤ D by omega)
    rw [Nat.mul_assoc] at this; exact this
  rw [e1, e2]
  generalize B * E = X at *
  generalize R * E = Y at *
  generalize D * E = Z at *
  refine ⟨by omega, by omega, fun h => ?_, fun h => ?_⟩
  · by_cases g : 2 * R < D
    · exact g
    · have := c1 g; omega
  · by_cases g : D < 2 * R
    · exact g
    · have := c2 g; omega

theorem btw_law (a : Dy) (ao : Option Addr) (ac : Nat) (w : World) (ra : LRow w ao a.mag) (la : Lm a.mag) (sa : ao = none → ac = 0 ∧ a.mag.length = 0) (na : a.mag.length ≤ 17592186044416) (hT : TabW w) :
    Calls Tryd.prog 6 #[.agg #[.bool a.neg, .slice ao a.mag.length ac, .int .i64 a.exp]] w fun e w' => e = .returned (.bool true) ∧ Below w.heap.size w w' := by
  obtain ⟨⟨d, k⟩, hd⟩ : ∃ r, normD a = r := ⟨_, rfl⟩
  cases hk : (k != 0)
  case true => exact btw_early a d k ao ac w ra la sa na hT hd hk
  have k0 : k = 0 := by simpa using hk
  subst k0
  have hd' : nrm (sv a) a.exp = (d, 0) := hd
  have hz : (nrm (sv a) a.exp).2 = 0 := by rw [hd']
  have rd := (nrm_ok hz).1
  have ld := nrm_lm (sv a) a.exp
  have nd := nrm_len (sv a) a.exp
  rw [hd'] at rd ld nd
  simp only at rd ld nd
  clear hd' hz
  by_cases hn : d.mag.length = 0
  · have e : d = dy0 := by
      rcases right_cases rd with h | ⟨h, _⟩
      · exact h
      · exact absurd hn h
    subst e
    exact btw_fit a dy0 ao ac 0 0 0 0 w ra la sa na hT hd ld rd rfl rfl rfl rfl (by kernel_rfl) (by omega) rfl rfl rfl (by kernel_rfl) nd
  cases hf : fitB d
  case true =>
    obtain ⟨x, hx, fx, x0, e⟩ := fit_float hf hn
    have r : ∀ m, rndW d m = x := fun m => by rw [e]; exact of_round hx fx x0 m
    exact btw_fit a d ao ac x x x x w ra la sa na hT hd ld rd (r 1) (r 2) (r 0) (r 3) hf hx rfl rfl rfl (by rw [of_some fx x0, ← e]) nd
  have hc : d.mag.getD 0 0 % 2 = 1 := by
    rcases right_cases rd with h | ⟨_, h⟩
    · rw [h] at hn; exact absurd rfl hn
    · exact h.2.1
  have hodd : vl d.mag % 2 = 1 := by rw [vl_odd ld hn]; exact hc
  have he := (right_exp rd).1
  have hr := rnd_un hn
  have hs := sgD_un hn
  have hq := qd_un d
  by_cases hg : 1024 < (bl (vl d.mag) : Int) + d.exp
  · have z3 : rSz (vl d.mag) d.exp 3 = 9218868437227405311 := by unfold rSz; rw [if_pos hg]; rfl
    have z2 : rSz (vl d.mag) d.exp 2 = 9218868437227405312 := by unfold rSz; rw [if_pos hg]; rfl
    have z0 : rSz (vl d.mag) d.exp 0 = 9218868437227405312 := by unfold rSz; rw [if_pos hg]; rfl
    have hen := ends_next (s := 9218868437227405311) (by omega)
    cases hneg : d.neg <;> rw [hneg] at hr hs
    · refine btw_core a d ao ac 9218868437227405311 9218868437227405312 9218868437227405312 9218868437227405311 w ra la sa na hT hd ld rd ?_ ?_ ?_ ?_ hf (by omega) (by omega) (Or.inr rfl) 9218868437227405311 (Or.inr ⟨by rw [hs]; decide, rfl⟩) rfl hen.1 (fun _ h => absurd h (by decide))
      · rw [hr]; exact z3
      · rw [hr]; exact z2
      · rw [hr]; exact z0
      · rw [hr]; exact z3
    · refine btw_core a d ao ac 18442240474082181120 18442240474082181119 18442240474082181120 18442240474082181119 w ra la sa na hT hd ld rd ?_ ?_ ?_ ?_ hf (by omega) (by omega) (Or.inl rfl) 18442240474082181119 (Or.inl ⟨by rw [hs]; decide, rfl⟩) rfl hen.2 (fun h => absurd h (by decide))
      · rw [hr]; exact congrArg (9223372036854775808 + ·) z2
      · rw [hr]; exact congrArg (9223372036854775808 + ·) z3
      · rw [hr]; exact congrArg (9223372036854775808 + ·) z0
      · rw [hr]; exact congrArg (9223372036854775808 + ·) z3
  · have hdr : 0 < rDr (vl d.mag) d.exp := by
      by_cases h : 0 < rDr (vl d.mag) d.exp
      · exact h
      · rw [fit_of ld rd hn (by omega) (by omega)] at hf; cases hf
    obtain ⟨s, B, R, D, e3, e2, e0, hsl, hv, hR0, hRD, v1, v2, n1, n2⟩ := rnd_near hodd he (by omega) hdr
    have hE : 0 < 2 ^ (d.exp + 65536).toNat := Nat.pow_pos (by omega)
    have hen := ends_next hsl
    rw [hv] at hq
    obtain ⟨m1, m2, m3, m4⟩ := btw_nums (B := B) hR0 hRD hE
    rw [← v1] at m1 m3 m4
    rw [← v2] at m2 m3 m4
    generalize (B + R) * 2 ^ (d.exp + 65536).toNat = M at *
    cases hneg : d.neg <;> rw [hneg] at hr hs hq
    · refine btw_core a d ao ac s (s + 1) (rSz (vl d.mag) d.exp 0) s w ra la sa na hT hd ld rd ?_ ?_ ?_ ?_ hf (by omega) (by omega) e0 s (Or.inr ⟨by rw [hs]; decide, rfl⟩) rfl hen.1 ?_
      · rw [hr]; exact e3
      · rw [hr]; exact e2
      · rw [hr]; rfl
      · rw [hr]; exact e3
      · intro f1 f2
        have q1 := (of_qd f1).2.2.2.2
        have q2 := (of_qd f2).2.2.2.2
        have hs1 : s + 1 < 9218868437227405312 := by unfold finB at f2; rw [rung_small (by omega)] at f2; simpa using f2
        rw [(fin_small hsl).1, (fin_small hsl).2] at q1
        rw [(fin_small hs1).1, (fin_small hs1).2] at q2
        simp only [Bool.false_eq_true, if_false] at q1 q2 hq
        rw [q1, q2, hq]
        refine ⟨by omega, by omega, fun h => n1 (m3 (by omega)), fun h => n2 (m4 (by omega))⟩
    · refine btw_core a d ao ac (9223372036854775808 + (s + 1)) (9223372036854775808 + s) (9223372036854775808 + rSz (vl d.mag) d.exp 0) (9223372036854775808 + s) w ra la sa na hT hd ld rd ?_ ?_ ?_ ?_ hf (by omega) (by omega) ?_ (9223372036854775808 + s) (Or.inl ⟨by rw [hs]; decide, rfl⟩) rfl hen.2 ?_
      · rw [hr]; exact congrArg (9223372036854775808 + ·) e2
      · rw [hr]; exact congrArg (9223372036854775808 + ·) e3
      · rw [hr]; rfl
      · rw [hr]; exact congrArg (9223372036854775808 + ·) e3
      · rcases e0 with h | h
        · exact Or.inr (by rw [h])
        · exact Or.inl (by rw [h])
      · intro f1 f2
        have q1 := (of_qd f1).2.2.2.2
        have q2 := (of_qd f2).2.2.2.2
        rw [(fin_big (s := s + 1) (by omega)).1, (fin_big (s := s + 1) (by omega)).2] at q1
        rw [(fin_big (s := s) (by omega)).1, (fin_big (s := s) (by omega)).2] at q2
        simp only [if_true] at q1 q2 hq
        rw [q1, q2, hq]
        refine ⟨by omega, by omega, fun h => by rw [n2 (m4 (by omega))], fun h => by rw [n1 (m3 (by omega))]⟩
end Go.Proofs.YtjdhadpfhnmkhaaDoor
