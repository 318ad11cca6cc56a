/- RatioSides: the four floats that a right ratio is rounded to: no program in this text. -/
import Derived.Test.YtmcnnnmlacpppaaDoorRs5
namespace Go.Proofs.YtmcnnnmlacpppaaDoor
open Go.RowKit

structure SdQ (n : Bool) (N D kd ku kn kz : Nat) : Prop where
  d : rnR n N D 1 = wd n kd
  u : rnR n N D 2 = wd n ku
  e : rnR n N D 0 = wd n kn
  z : rnR n N D 3 = wd n kz
  ld : kd ≤ 9218868437227405312
  lu : ku ≤ 9218868437227405312
  le : kn ≤ 9218868437227405312
  lz : kz ≤ 9218868437227405312
  bel : BelT (wd n kd) n N D
  abv : AbvT (wd n ku) n N D
  near : kn = kd ∨ kn = ku
  next : kd ≠ ku → (n = false → ku = kd + 1) ∧ (n = true → kd = ku + 1)
  zd : 0 ≤ sgR n N → kz = kd
  zu : sgR n N ≤ 0 → kz = ku
  mid : kd ≠ ku → kd < 9218868437227405312 → ku < 9218868437227405312 → (pz n (2 * (N * 2 ^ eU)) < pz n ((val kd + val ku) * D) → kn = kd) ∧ (pz n ((val kd + val ku) * D) < pz n (2 * (N * 2 ^ eU)) → kn = ku)
theorem sgR_pos {N : Nat} (h : N ≠ 0) : sgR false N = 1 ∧ sgR true N = -1 := by
  unfold sgR
  rw [if_neg h, if_neg h]
  simp
theorem sides_at {n : Bool} {N D s r3 r2 r0 : Nat} (R : RqB n N D) (hN : N ≠ 0) (hA : Abt (N * 2 ^ eU) D s r3 r2 r0) (hr : ∀ m, rnR n N D m = wd n (if szm n m = 3 then r3 else if szm n m = 2 then r2 else r0)) :
    SdQ n N D (if n then r2 else r3) (if n then r3 else r2) r0 r3 := by
  obtain ⟨hs, hc⟩ := hA
  obtain ⟨g1, g2⟩ := sgR_pos hN
  have l3 : r3 ≤ 9218868437227405311 := by rcases hc with h | h <;> omega
  have l2 : r2 ≤ 9218868437227405312 := by rcases hc with h | h <;> omega
  have l0 : r0 ≤ 9218868437227405312 := by
    rcases hc with h | h
    · omega
    · rcases h.2.2.2.2.1 with q | q <;> omega
  have b3 : val r3 * D ≤ N * 2 ^ eU := by
    rcases hc with h | h
    · rw [h.2.1]; omega
    · rw [h.2.2.1]; exact Nat.le_of_lt h.1
  have b2 : r2 < 9218868437227405312 → N * 2 ^ eU ≤ val r2 * D := fun q => by
    rcases hc with h | h
    · rw [h.2.2.1]; omega
    · rw [h.2.2.2.1]; exact Nat.le_of_lt (h.2.1 (by omega))
  have hnr : r0 = r3 ∨ r0 = r2 := by
    rcases hc with h | h
    · omega
    · rcases h.2.2.2.2.1 with q | q <;> omega
  have hnx : r3 ≠ r2 → r2 = r3 + 1 := fun q => by rcases hc with h | h <;> omega
  have hmd : r3 ≠ r2 → r2 < 9218868437227405312 → (2 * (N * 2 ^ eU) < (val r3 + val r2) * D → r0 = r3) ∧ ((val r3 + val r2) * D < 2 * (N * 2 ^ eU) → r0 = r2) := fun q c => by
    rcases hc with h | ⟨h1, h2, h3, h4, h5, h6⟩
    · omega
    · subst h3 h4
      exact h6 c
  have hbf : n = false → BelT (wd n r3) n N D := fun q => wd_bel (by omega) R (fun _ => ⟨by omega, b3⟩) (fun c => absurd (q.symm.trans c) (by decide))
  have hbt : n = true → BelT (wd n r2) n N D := fun q => wd_bel l2 R (fun c => absurd (q.symm.trans c) (by decide)) (fun _ c => b2 c)
  have haf : n = false → AbvT (wd n r2) n N D := fun q => wd_abv l2 R (fun c => absurd (q.symm.trans c) (by decide)) (fun _ c => b2 c)
  have hat : n = true → AbvT (wd n r3) n N D := fun q => wd_abv (by omega) R (fun _ => ⟨by omega, b3⟩) (fun c => absurd (q.symm.trans c) (by decide))
  clear hc b3 b2
  cases n
  · have e1 : szm false 1 = 3 := rfl
    have e2 : szm false 2 = 2 := rfl
    have e0 : szm false 0 = 0 := rfl
    have e3 : szm false 3 = 3 := rfl
    refine ⟨by rw [hr, e1]; rfl, by rw [hr, e2]; rfl, by rw [hr, e0]; rfl, by rw [hr, e3]; rfl, ?_, ?_, l0, ?_, ?_, ?_, ?_, ?_, ?_, ?_, ?_⟩
    all_goals try simp only [Bool.false_eq_true, if_false]
    · omega
    · exact l2
    · omega
    · exact hbf rfl
    · exact haf rfl
    · exact hnr
    · exact fun q => ⟨fun _ => hnx q, fun c => absurd c (by decide)⟩
    · exact fun _ => trivial
    · intro q; rw [g1] at q; omega
    · intro q c1 c2
      obtain ⟨m1, m2⟩ := hmd q c2
      unfold pz
      simp only [Bool.false_eq_true, if_false]
      exact ⟨fun h => m1 (by omega), fun h => m2 (by omega)⟩
  · have e1 : szm true 1 = 2 := rfl
    have e2 : szm true 2 = 3 := rfl
    have e0 : szm true 0 = 0 := rfl
    have e3 : szm true 3 = 3 := rfl
    refine ⟨by rw [hr, e1]; rfl, by rw [hr, e2]; rfl, by rw [hr, e0]; rfl, by rw [hr, e3]; rfl, ?_, ?_, l0, ?_, ?_, ?_, ?_, ?_, ?_, ?_, ?_⟩
    all_goals try simp only [if_true]
    · exact l2
    · omega
    · omega
    · exact hbt rfl
    · exact hat rfl
    · exact hnr.symm
    · exact fun q => ⟨fun c => absurd c (by decide), fun _ => hnx (Ne.symm q)⟩
    · intro q; rw [g2] at q; omega
    · exact fun _ => trivial
    · intro q c1 c2
      obtain ⟨m1, m2⟩ := hmd (Ne.symm q) c1
      rw [Nat.add_comm (val r2)]
      unfold pz
      simp only [if_true]
      exact ⟨fun h => m2 (by omega), fun h => m1 (by omega)⟩
theorem sides_any {n : Bool} {N D : Nat} (R : RqB n N D) : ∃ kd ku kn kz, SdQ n N D kd ku kn kz := by
  by_cases hN : N = 0
  · subst hN
    have hn : n = false := R.z rfl
    subst hn
    have hr : ∀ m, rnR false 0 D m = 0 := fun m => by
      have e1 : nrR 0 D = 0 := by
        unfold nrR quA
        rw [Nat.zero_mul, Nat.zero_div, Nat.zero_mod]
        rfl
      unfold rnR
      rw [e1]
      rfl
    refine ⟨0, 0, 0, 0, hr 1, hr 2, hr 0, hr 3, by omega, by omega, by omega, by omega, wd_bel (by omega) R (fun _ => ⟨by omega, by rw [val_zero]; omega⟩) (fun c => absurd c (by decide)), wd_abv (by omega) R (fun c => absurd c (by decide)) (fun _ _ => by omega), Or.inl rfl, fun h => absurd rfl h, fun _ => rfl, fun _ => rfl, fun h => absurd rfl h⟩
  · obtain ⟨s, r3, r2, r0, hA, hr⟩ := rn_about R hN
    exact ⟨_, _, _, _, sides_at R hN hA hr⟩
theorem wd_self (x : Nat) (hx : x < 18446744073709551616) : wd (sgn x) (rung x) = x := by
  unfold wd sgn rung
  by_cases h : 9223372036854775808 ≤ x
  · simp [h]; omega
  · simp [h]; omega
/-- What Round tells of a float's ratio is the float. -/
theorem rn_back {x : Nat} {sa : Bool} {Na Da : Nat} (hx : x < 18446744073709551616) (hf : finB x = true) (hQ : FlQ x sa Na Da) (m : Int) : (FloatKind.f64.format.order (rnR sa Na Da m) x != some .eq) = false := by
  have hfr : rung x < 9218868437227405312 := of_decide_eq_true hf
  have hself := wd_self x hx
  have hn : nanB x = false := by unfold nanB; simp; omega
  by_cases h0 : rung x = 0
  · have hz : Na = 0 := by
      have := hQ.v
      rw [h0, val_zero, Nat.zero_mul] at this
      rcases Nat.mul_eq_zero.1 this with q | q
      · exact q
      · exact absurd q (Nat.ne_of_gt (Nat.two_pow_pos _))
    subst hz
    have hs := hQ.R.z rfl
    subst hs
    have hr : rnR false 0 Da m = 0 := by
      have e1 : nrR 0 Da = 0 := by
        unfold nrR quA
        rw [Nat.zero_mul, Nat.zero_div, Nat.zero_mod]
        rfl
      unfold rnR
      rw [e1]
      rfl
    rw [hr, ord_eq (by omega) hx rfl hn (by unfold place; rw [h0]; cases sgn x <;> rfl)]
    rfl
  · have hD : 0 < Da := Nat.pos_of_ne_zero hQ.R.d0
    have hN : Na ≠ 0 := fun h => by
      have := hQ.v
      rw [h, Nat.zero_mul] at this
      rcases Nat.mul_eq_zero.1 this.symm with q | q
      · have := val_lt (Nat.pos_of_ne_zero h0)
        rw [val_zero] at this
        omega
      · omega
    obtain ⟨s, r3, r2, r0, ⟨h1, hA⟩, hr⟩ := rn_about hQ.R hN
    rw [hQ.v] at hA
    rcases hA with ⟨e, q3, q2, q0⟩ | ⟨e1, e2, _⟩
    · have hs : s = rung x := by
        have hv := Nat.eq_of_mul_eq_mul_right hD e
        rcases Nat.lt_trichotomy s (rung x) with c | c | c
        · have := val_lt c; omega
        · exact c
        · have := val_lt c; omega
      subst q3 q2 q0
      have hw : rnR sa Na Da m = x := by
        rw [hr, hQ.s h0]
        simp only [ite_self]
        rw [hs]
        exact hself
      rw [hw, ord_eq hx hx hn hn rfl]
      rfl
    · exfalso
      have c1 := (val_lt_iff s (rung x)).1 (Nat.lt_of_mul_lt_mul_right e1)
      have c2 := (val_lt_iff (rung x) (s + 1)).1 (Nat.lt_of_mul_lt_mul_right (e2 (by omega)))
      omega
end Go.Proofs.YtmcnnnmlacpppaaDoor
