/- A right dyad that is no float lies between two floats next to each other, and is rounded to these: no program in this text. -/
import Derived.Test.YtjdhadpfhnmkhaaDoorDx
import Derived.Test.YtjdhadpfhnmkhaaDoorHj
import Derived.Test.YtjdhadpfhnmkhaaDoorEm
import Derived.Test.YtjdhadpfhnmkhaaDoorFz
namespace Go.Proofs.YtjdhadpfhnmkhaaDoor

theorem addD_right {x y : Dy} (rx : rightB x = true) (ry : rightB y = true) : addD x y = nrm (qd x + qd y) (-65536) := by unfold addD; rw [rx, ry]; rfl
theorem subD_right {x y : Dy} (rx : rightB x = true) (ry : rightB y = true) : subD x y = nrm (qd x - qd y) (-65536) := by unfold subD; rw [rx, ry]; rfl
theorem mulD_right {x y : Dy} (rx : rightB x = true) (ry : rightB y = true) : mulD x y = nrm (qd x * qd y) (-131072) := by unfold mulD; rw [rx, ry]; rfl
theorem mul_comm' (x y : Dy) : mulD x y = mulD y x := by unfold mulD; rw [Bool.and_comm, Int.mul_comm]
theorem add_val {x y : Dy} (rx : rightB x = true) (ry : rightB y = true) (h : (addD x y).2 = 0) : rightB (addD x y).1 = true ∧ qd (addD x y).1 = qd x + qd y := by
  rw [addD_right rx ry] at h ⊢
  exact nrm_q h
theorem mul_val {x y : Dy} (rx : rightB x = true) (ry : rightB y = true) (h : (mulD x y).2 = 0) : rightB (mulD x y).1 = true ∧ qd (mulD x y).1 * 2 ^ 65536 = qd x * qd y := by
  rw [mulD_right rx ry] at h ⊢
  exact nrm_qp h
theorem addD_lm (x y : Dy) : Lm (addD x y).1.mag := by
  unfold addD
  split
  · exact nrm_lm _ _
  · intro v hv; simp [dy0] at hv
theorem mulD_lm (x y : Dy) : Lm (mulD x y).1.mag := by
  unfold mulD
  split
  · exact nrm_lm _ _
  · intro v hv; simp [dy0] at hv
theorem addD_err {x y : Dy} (rx : rightB x = true) (ry : rightB y = true) : (addD x y).2 = 0 ∨ (addD x y).2 = 3 := by rw [addD_right rx ry]; exact nrm_err _ _
theorem mulD_err {x y : Dy} (rx : rightB x = true) (ry : rightB y = true) : (mulD x y).2 = 0 ∨ (mulD x y).2 = 3 := by rw [mulD_right rx ry]; exact nrm_err _ _
theorem ring_back {x y : Dy} (rx : rightB x = true) (ry : rightB y = true) (lx : Lm x.mag) (h : (addD x y).2 = 0) : subD (addD x y).1 y = (x, 0) := by
  obtain ⟨r, q⟩ := add_val rx ry h
  rw [subD_right r ry, q, Int.add_sub_cancel]
  exact qd_nrm lx rx
theorem ring_add {x y z : Dy} (rx : rightB x = true) (ry : rightB y = true) (rz : rightB z = true) (h1 : (addD x y).2 = 0) (h2 : (addD y z).2 = 0) : addD (addD x y).1 z = addD x (addD y z).1 := by
  obtain ⟨r1, q1⟩ := add_val rx ry h1
  obtain ⟨r2, q2⟩ := add_val ry rz h2
  rw [addD_right r1 rz, addD_right rx r2, q1, q2, Int.add_assoc]
theorem ring_mul {x y z : Dy} (rx : rightB x = true) (ry : rightB y = true) (rz : rightB z = true) (h1 : (mulD x y).2 = 0) (h2 : (mulD y z).2 = 0) : mulD (mulD x y).1 z = mulD x (mulD y z).1 := by
  obtain ⟨r1, q1⟩ := mul_val rx ry h1
  obtain ⟨r2, q2⟩ := mul_val ry rz h2
  rw [mulD_right r1 rz, mulD_right rx r2]
  congr 1
  apply mul_cancel 65536
  rw [Int.mul_right_comm, q1, Int.mul_assoc, Int.mul_assoc, q2]
theorem ring_dist {x y z : Dy} (rx : rightB x = true) (ry : rightB y = true) (rz : rightB z = true) (h1 : (addD y z).2 = 0) (h2 : (mulD x y).2 = 0) (h3 : (mulD x z).2 = 0) : mulD x (addD y z).1 = addD (mulD x y).1 (mulD x z).1 := by
  obtain ⟨r1, q1⟩ := add_val ry rz h1
  obtain ⟨r2, q2⟩ := mul_val rx ry h2
  obtain ⟨r3, q3⟩ := mul_val rx rz h3
  rw [mulD_right rx r1, addD_right r2 r3, nrm_down, q1, Int.add_mul, q2, q3, Int.mul_add]
end Go.Proofs.YtjdhadpfhnmkhaaDoor

namespace Go.Proofs.YtjdhadpfhnmkhaaDoor

theorem sgI_bd (x : Int) : -1 ≤ sgI x ∧ sgI x ≤ 1 := by unfold sgI; split <;> (try split) <;> omega
theorem sgI_turn (x y : Int) : sgI (y - x) = -sgI (x - y) := by unfold sgI; (repeat' split) <;> omega
theorem sgI_neg (x : Int) : sgI (-x) = -sgI x := by unfold sgI; (repeat' split) <;> omega
theorem sgI_le (x : Int) : sgI x ≤ 0 ↔ x ≤ 0 := by unfold sgI; (repeat' split) <;> omega
theorem sgI_lt (x : Int) : sgI x < 0 ↔ x < 0 := by unfold sgI; (repeat' split) <;> omega
theorem sgI_zero (x : Int) : sgI x = 0 ↔ x = 0 := by unfold sgI; (repeat' split) <;> omega
theorem sgI_cases (x : Int) : (x < 0 ∧ sgI x = -1) ∨ (x = 0 ∧ sgI x = 0) ∨ (0 < x ∧ sgI x = 1) := by unfold sgI; (repeat' split) <;> omega
theorem sgI_mul (x y : Int) : sgI (x * y) = sgI x * sgI y := by
  rcases sgI_cases x with ⟨hx, ex⟩ | ⟨hx, ex⟩ | ⟨hx, ex⟩ <;> rcases sgI_cases y with ⟨hy, ey⟩ | ⟨hy, ey⟩ | ⟨hy, ey⟩ <;> rw [ex, ey]
  · have := Int.mul_pos_of_neg_of_neg hx hy; unfold sgI; rw [if_neg (by omega), if_neg (by omega)]; rfl
  · rw [hy, Int.mul_zero]; rfl
  · have := Int.mul_neg_of_neg_of_pos hx hy; unfold sgI; rw [if_pos this]; rfl
  · rw [hx, Int.zero_mul]; rfl
  · rw [hx, Int.zero_mul]; rfl
  · rw [hx, Int.zero_mul]; rfl
  · have := Int.mul_neg_of_pos_of_neg hx hy; unfold sgI; rw [if_pos this]; rfl
  · rw [hy, Int.mul_zero]; rfl
  · have := Int.mul_pos hx hy; unfold sgI; rw [if_neg (by omega), if_neg (by omega)]; rfl
theorem sgD_qd {d : Dy} (h : rightB d = true) : sgD d = sgI (qd d) := by
  obtain ⟨e, hc⟩ := qd_sign h
  rw [e, sgI_mul]
  rcases hc with ⟨h1, _⟩ | ⟨h1, h2⟩ | ⟨h1, h2⟩
  · rw [h1]; exact (Int.zero_mul _).symm
  · have : sgI (sz d : Int) = 1 := by unfold sgI; rw [if_neg (by omega), if_neg (by omega)]
    rw [h1, this]; rfl
  · have : sgI (sz d : Int) = 1 := by unfold sgI; rw [if_neg (by omega), if_neg (by omega)]
    rw [h1, this]; rfl
theorem ord_same {x y : Dy} (rx : rightB x = true) (ry : rightB y = true) (lx : Lm x.mag) (ly : Lm y.mag) : (sgI (qd x - qd y) == 0) = eqB x y := by
  by_cases h : x = y
  · subst h
    rw [eqB_self, Int.sub_self]; rfl
  · have h1 : eqB x y = false := by
      cases hc : eqB x y
      · rfl
      · exact absurd (eqB_iff.1 hc) h
    rw [h1, beq_eq_false_iff_ne]
    intro h0
    have := (sgI_zero _).1 h0
    exact h (qd_inj lx ly rx ry (by omega))
theorem sub_val {x y : Dy} (rx : rightB x = true) (ry : rightB y = true) (h : (subD x y).2 = 0) : rightB (subD x y).1 = true ∧ qd (subD x y).1 = qd x - qd y := by
  rw [subD_right rx ry] at h ⊢
  exact nrm_q h
theorem subD_lm (x y : Dy) : Lm (subD x y).1.mag := by
  unfold subD
  split
  · exact nrm_lm _ _
  · intro v hv; simp [dy0] at hv
theorem ord_sub {x y : Dy} (rx : rightB x = true) (ry : rightB y = true) (h : (subD x y).2 = 0) : rightB (subD x y).1 = true ∧ sgD (subD x y).1 = sgI (qd x - qd y) := by
  obtain ⟨r, q⟩ := sub_val rx ry h
  exact ⟨r, by rw [sgD_qd r, q]⟩
theorem ord_add {x y z : Dy} (rx : rightB x = true) (ry : rightB y = true) (rz : rightB z = true) (h1 : (addD x z).2 = 0) (h2 : (addD y z).2 = 0) :
    rightB (addD x z).1 = true ∧ rightB (addD y z).1 = true ∧ sgI (qd (addD x z).1 - qd (addD y z).1) = sgI (qd x - qd y) := by
  obtain ⟨r1, q1⟩ := add_val rx rz h1
  obtain ⟨r2, q2⟩ := add_val ry rz h2
  exact ⟨r1, r2, by rw [q1, q2, Int.add_sub_add_right]⟩
theorem ord_mul {x y z : Dy} (rx : rightB x = true) (ry : rightB y = true) (rz : rightB z = true) (h1 : (mulD x z).2 = 0) (h2 : (mulD y z).2 = 0) :
    rightB (mulD x z).1 = true ∧ rightB (mulD y z).1 = true ∧ sgI (qd (mulD x z).1 - qd (mulD y z).1) = sgI (qd x - qd y) * sgD z := by
  obtain ⟨r1, q1⟩ := mul_val rx rz h1
  obtain ⟨r2, q2⟩ := mul_val ry rz h2
  refine ⟨r1, r2, ?_⟩
  rw [sgD_qd rz, ← sgI_mul, Int.sub_mul, ← q1, ← q2, ← Int.sub_mul, sg_mul]
theorem ord_low (x y z : Dy) : (sgI (qd x - qd y) ≤ 0 → sgI (qd y - qd z) ≤ 0 → sgI (qd x - qd z) ≤ 0) ∧ (sgI (qd x - qd y) < 0 → sgI (qd y - qd z) ≤ 0 → sgI (qd x - qd z) < 0) := by
  rw [sgI_le, sgI_le, sgI_le, sgI_lt, sgI_lt]
  omega
end Go.Proofs.YtjdhadpfhnmkhaaDoor

namespace Go.Proofs.YtjdhadpfhnmkhaaDoor
open Go.RowKit

theorem of_nought {a : Nat} (hf : finB a = true) (h0 : rung a = 0) : ofD a = (dy0, 0) := by
  have e1 : spF a = 0 := by unfold spF; rw [if_pos h0]
  unfold ofD; rw [if_neg (by rw [hf]; simp), if_pos e1]
theorem of_some {a : Nat} (hf : finB a = true) (h0 : rung a ≠ 0) : ofD a = (⟨sgn a, [spF a], spE a⟩, 0) := by
  have h1 := (sp_bd hf h0).1
  unfold ofD; rw [if_neg (by rw [hf]; simp), if_neg h1]
theorem of_right {a : Nat} (hf : finB a = true) (h0 : rung a ≠ 0) : rightB ⟨sgn a, [spF a], spE a⟩ = true := by
  obtain ⟨b1, b2, b3, b4, b5, b6⟩ := sp_bd hf h0
  have p2 := (sp_parts h0).2.1
  exact right_of (by simp) ⟨by simp, by simpa using p2, by simpa using b1, by simp only; omega, by simp only; omega⟩
theorem of_round {a : Nat} (ha : a < 18446744073709551616) (hf : finB a = true) (h0 : rung a ≠ 0) (m : Int) : rndW ⟨sgn a, [spF a], spE a⟩ m = a := by
  have e : vl [spF a] = spF a := by simp [vl]
  have hw := rung_of a ha
  unfold rndW
  rw [if_neg (by simp)]
  simp only [e, rSz_self hf h0]
  exact hw.symm
theorem of_fits {a : Nat} (hf : finB a = true) (h0 : rung a ≠ 0) : fitB ⟨sgn a, [spF a], spE a⟩ = true := by
  unfold fitB
  rw [of_right hf h0]
  have : lmb [spF a] 0 = spF a := rfl
  simp only [this, (sp_join hf h0).2]
  rfl
theorem nan_zero' : nanB 0 = false := by decide
theorem place_zero' : place 0 = 0 := by decide
theorem ord_nought {a : Nat} (ha : a < 18446744073709551616) (hf : finB a = true) (h0 : rung a = 0) : (FloatKind.f64.format.order a 0 == some .eq) = true ∧ (FloatKind.f64.format.order a 0 == some .gt) = false ∧ (FloatKind.f64.format.order a 0 == some .lt) = false := by
  have na := finB_nan hf
  have hp : place a = 0 := by unfold place; rw [h0]; split <;> rfl
  have e := ord_eq ha (show 0 < 18446744073709551616 by omega) na nan_zero' (by rw [place_zero']; exact hp)
  rw [e]; exact ⟨rfl, rfl, rfl⟩
theorem ord_some {a : Nat} (ha : a < 18446744073709551616) (hf : finB a = true) (h0 : rung a ≠ 0) : (FloatKind.f64.format.order a 0 == some .eq) = false ∧ (FloatKind.f64.format.order a 0 == some .gt) = (!sgn a) ∧ (FloatKind.f64.format.order a 0 == some .lt) = sgn a := by
  have na := finB_nan hf
  cases hs : sgn a
  · have hp : 0 < place a := by unfold place; rw [hs]; simp; omega
    have e := ord_gt ha (show 0 < 18446744073709551616 by omega) na nan_zero' (by rw [place_zero']; exact hp)
    rw [e]; exact ⟨rfl, rfl, rfl⟩
  · have hp : place a < 0 := by unfold place; rw [hs]; simp; omega
    have e := ord_lt ha (show 0 < 18446744073709551616 by omega) na nan_zero' (by rw [place_zero']; exact hp)
    rw [e]; exact ⟨rfl, rfl, rfl⟩
end Go.Proofs.YtjdhadpfhnmkhaaDoor

namespace Go.Proofs.YtjdhadpfhnmkhaaDoor

theorem odd_unique {m k q z : Nat} (hm : m % 2 = 1) (h : m * 2 ^ k = 2 ^ z * (2 * q + 1)) : k = z ∧ m = 2 * q + 1 := by
  have key : ∀ {x y i j : Nat}, x % 2 = 1 → x * 2 ^ i = y * 2 ^ j → j ≤ i → y % 2 = 1 → i = j ∧ x = y := by
    intro x y i j hx he hji hy
    obtain ⟨d, rfl⟩ : ∃ d, i = j + d := ⟨i - j, by omega⟩
    rw [Nat.pow_add, Nat.mul_comm (2 ^ j), ← Nat.mul_assoc] at he
    have he' := Nat.eq_of_mul_eq_mul_right (Nat.two_pow_pos j) he
    cases d with
    | zero => simp at he'; exact ⟨rfl, he'⟩
    | succ d => rw [Nat.pow_succ, ← Nat.mul_assoc] at he'; omega
  rw [Nat.mul_comm (2 ^ z)] at h
  by_cases hkz : z ≤ k
  · exact key hm h hkz (by omega)
  · have := key (by omega) h.symm (by omega) hm
    exact ⟨this.1.symm, this.2.symm⟩

theorem split_end {a m k : Nat} (h0 : rung a ≠ 0) (hm : m % 2 = 1) (h : m * 2 ^ k = mg (rung a)) : spZ a = k ∧ spF a = m := by
  have hlt := mg_lt (rung a)
  have hne := mg_ne h0
  obtain ⟨q, hq, hz⟩ := Lib.ctzFrom_spec 64 (mg (rung a)) (by omega) (by omega)
  have e : spZ a = Lib.ctzFrom 64 (mg (rung a)) := by unfold spZ Lib.ctz; rw [if_neg hne]
  rw [← e] at hq
  obtain ⟨h1, h2⟩ := odd_unique hm (h.trans hq)
  refine ⟨h1.symm, ?_⟩
  unfold spF
  rw [if_neg h0, ← h1, ← h, Nat.mul_div_cancel _ (Nat.two_pow_pos _)]

theorem val_jR {f : Nat} {e : Int} (h0 : f ≠ 0) (h : f < 9007199254740992) (h1 : -1074 ≤ e) : val (jR f e) = f * 2 ^ (e + 1074).toNat ∧ mg (jR f e) = jM f e ∧ up (jR f e) = jU f e ∧ jR f e ≠ 0 := by
  obtain ⟨j1, j2, j3⟩ := jM_ok h0 h h1
  obtain ⟨m1, m2⟩ := mg_of j1 j3
  have e1 : mg (jR f e) = jM f e := m1
  have e2 : up (jR f e) = jU f e := m2
  have hl := log2_lt53 h0 h
  refine ⟨?_, e1, e2, by unfold jR; omega⟩
  rw [← mg_up, e1, e2]
  unfold jM jU
  by_cases hc : -1022 ≤ e + f.log2
  · rw [if_pos hc, if_pos hc, Nat.mul_assoc, ← Nat.pow_add, show 52 - f.log2 + (e + f.log2 + 1022).toNat = (e + 1074).toNat by omega]
  · rw [if_neg hc, if_neg hc, Nat.pow_zero, Nat.mul_one]
theorem split_join {n : Bool} {f : Nat} {e : Int} (hk : okP f e = true) : finB (joinF n f e) = true ∧ sgn (joinF n f e) = n ∧ spF (joinF n f e) = f ∧ spE (joinF n f e) = e := by
  have hv := valR_lt f e
  have hj : joinF n f e = Ieee.double.word n (valR f e) := by
    unfold joinF; rw [hk]; cases n
    · rfl
    · rw [word_neg]; rfl
  obtain ⟨r1, r2⟩ := word_rung n (r := valR f e) (by omega)
  rw [hj]
  refine ⟨by unfold finB; rw [r1]; simpa using hv, r2, ?_⟩
  by_cases h0 : f = 0
  · have he : e = 0 := by unfold okP at hk; rw [if_pos h0] at hk; simpa using hk
    have hz : valR f e = 0 := by unfold valR; rw [if_pos h0]
    rw [hz] at r1 ⊢
    unfold spF spE
    rw [r1, if_pos rfl, if_pos rfl]
    exact ⟨h0.symm, he.symm⟩
  · have hp : f % 2 = 1 ∧ f < 9007199254740992 ∧ -1074 ≤ e ∧ e ≤ 1023 ∧ jR f e < 9218868437227405312 := by unfold okP at hk; rw [if_neg h0] at hk; simpa using hk
    have hvj : valR f e = jR f e := by unfold valR; rw [if_neg h0, hk]; rfl
    obtain ⟨v1, v2, v3, v4⟩ := val_jR (e := e) h0 hp.2.1 hp.2.2.1
    have hl := log2_lt53 h0 hp.2.1
    rw [hvj] at r1 ⊢
    have hne : rung (Ieee.double.word n (jR f e)) ≠ 0 := by rw [r1]; exact v4
    obtain ⟨k, hk1, hk2⟩ : ∃ k : Nat, f * 2 ^ k = jM f e ∧ (jU f e : Int) - 1074 + k = e := by
      unfold jM jU
      by_cases hc : -1022 ≤ e + f.log2
      · exact ⟨52 - f.log2, by rw [if_pos hc], by rw [if_pos hc]; omega⟩
      · exact ⟨(e + 1074).toNat, by rw [if_neg hc], by rw [if_neg hc]; omega⟩
    obtain ⟨z1, z2⟩ := split_end (a := Ieee.double.word n (jR f e)) (m := f) (k := k) hne hp.1 (by rw [r1, v2]; exact hk1)
    refine ⟨z2, ?_⟩
    unfold spE
    rw [if_neg hne, z1, r1, v3]
    exact hk2
end Go.Proofs.YtjdhadpfhnmkhaaDoor

namespace Go.Proofs.YtjdhadpfhnmkhaaDoor

/-- From a float's least place down to a dyad's. -/
def kU : Nat := 64462
theorem kU_eq : kU = 64462 := rfl
theorem rW_val {k : Nat} {la : Int} (hk : k < 9007199254740992) (hor : la = -1074 ∨ 4503599627370496 ≤ k) : val (rW k la) = k * 2 ^ (la + 1074).toNat ∧ val (rW k la + 1) = (k + 1) * 2 ^ (la + 1074).toNat := by
  have hU : (la + 1074).toNat = 0 ∨ 4503599627370496 ≤ k := by omega
  obtain ⟨e1, e2⟩ := mg_of hk hU
  unfold rW
  refine ⟨?_, ?_⟩
  · rw [← mg_up, e1, e2]
  · rw [val_succ, e1, e2]

/-- Where what is dropped is not nothing: the size below, the one above, the nearer one. -/
theorem rnd_near {v : Nat} {e : Int} (hv : v % 2 = 1) (he : -65536 ≤ e) (hg : (bl v : Int) + e ≤ 1024) (hd : 0 < rDr v e) :
    ∃ s B R D : Nat, rSz v e 3 = s ∧ rSz v e 2 = s + 1 ∧ (rSz v e 0 = s ∨ rSz v e 0 = s + 1) ∧ s < 9218868437227405312 ∧ v = B + R ∧ 0 < R ∧ R < D ∧
      val s * 2 ^ kU = B * 2 ^ (e + 65536).toNat ∧ val (s + 1) * 2 ^ kU = (B + D) * 2 ^ (e + 65536).toNat ∧ (2 * R < D → rSz v e 0 = s) ∧ (D < 2 * R → rSz v e 0 = s + 1) := by
  have h0 : v ≠ 0 := by omega
  obtain ⟨k1, k2, k3, k4, k5⟩ := kept_bd h0 hg
  generalize hla : rLa v e = la at *
  have hdr : rDr v e = la - e := by unfold rDr; rw [hla]
  generalize hdn : (rDr v e).toNat = n at *
  have hn : 0 < n := by omega
  have hsh : shr v (rDr v e) = v / 2 ^ n := by unfold shr; rw [if_pos (by omega), hdn]
  rw [hsh] at k1 k2 k5
  have hD : 0 < 2 ^ n := Nat.pow_pos (by omega)
  have hDM := Nat.div_add_mod v (2 ^ n)
  have hlt := Nat.mod_lt v hD
  have h2 : 2 ^ n = 2 * 2 ^ (n - 1) := by
    have h3 : n = n - 1 + 1 := by omega
    rw [h3, Nat.pow_succ, Nat.mul_comm, Nat.add_sub_cancel]
  have hodd : v % 2 ^ n % 2 = 1 := by
    rw [h2, Nat.mod_mul_right_mod]; exact hv
  have hR : v % 2 ^ n ≠ 0 := by intro h; rw [h] at hodd; cases hodd
  have hbit : win v (rDr v e - 1) % 2 = v / 2 ^ (n - 1) % 2 := by
    unfold win shr
    rw [if_pos (by omega), show (rDr v e - 1).toNat = n - 1 by omega]
    omega
  have hq : v / 2 ^ (n - 1) % 2 = (v % 2 ^ n) / 2 ^ (n - 1) := by
    rw [h2, Nat.mul_comm 2, Nat.mod_mul_right_div_self]
  have hp1 : 0 < 2 ^ (n - 1) := Nat.pow_pos (by omega)
  have hw : win v (rDr v e) = v / 2 ^ n := k1
  have e3 : rSz v e 3 = rW (v / 2 ^ n) la := by
    unfold rSz; rw [if_neg (by omega), hla]; unfold rKp rUp; rw [hw]; simp
  have e2 : rSz v e 2 = rW (v / 2 ^ n) la + 1 := by
    unfold rSz; rw [if_neg (by omega), hla]; unfold rKp rUp; rw [hw, if_pos ⟨hd, by simp⟩]; unfold rW; omega
  have e0 : ∀ b, rUp v (rDr v e) 0 = b → rSz v e 0 = if b then rW (v / 2 ^ n) la + 1 else rW (v / 2 ^ n) la := by
    intro b hb
    unfold rSz; rw [if_neg (by omega), hla]; unfold rKp; rw [hw, hb]
    cases b
    · simp
    · rw [if_pos ⟨hd, rfl⟩, if_pos rfl]; unfold rW; omega
  have hup : rUp v (rDr v e) 0 = ((v % 2 ^ n / 2 ^ (n - 1) == 1) && (decide (1 < rDr v e) || (win v (rDr v e) % 2 == 1))) := by
    unfold rUp; rw [if_pos rfl, hbit, hq]
  have hpow : 2 ^ (la + 1074).toNat * 2 ^ kU = 2 ^ n * 2 ^ (e + 65536).toNat := by
    rw [← Nat.pow_add, ← Nat.pow_add]; congr 1; have := kU_eq; omega
  obtain ⟨v1, v2⟩ := rW_val k2 k5
  refine ⟨rW (v / 2 ^ n) la, 2 ^ n * (v / 2 ^ n), v % 2 ^ n, 2 ^ n, e3, e2, ?_, ?_, by omega, by omega, hlt, ?_, ?_, ?_, ?_⟩
  · have h := e0 _ rfl
    cases hb : rUp v (rDr v e) 0 <;> rw [hb] at h
    · exact Or.inl h
    · exact Or.inr h
  · unfold rW; omega
  · rw [v1, Nat.mul_assoc, hpow, ← Nat.mul_assoc, Nat.mul_comm (v / 2 ^ n)]
  · rw [v2, Nat.mul_assoc, hpow, ← Nat.mul_assoc, Nat.add_mul, Nat.one_mul, Nat.mul_comm (v / 2 ^ n)]
  · intro h
    have hz : v % 2 ^ n / 2 ^ (n - 1) = 0 := Nat.div_eq_of_lt (by omega)
    rw [hz] at hup
    exact e0 false hup
  · intro h
    have h3 : v % 2 ^ n / 2 ^ (n - 1) = 1 := by
      have h4 := Nat.div_mul_le_self (v % 2 ^ n) (2 ^ (n - 1))
      have h5 : v % 2 ^ n / 2 ^ (n - 1) < 2 := (Nat.div_lt_iff_lt_mul hp1).2 (by omega)
      have h6 : 1 ≤ v % 2 ^ n / 2 ^ (n - 1) := (Nat.le_div_iff_mul_le hp1).2 (by omega)
      omega
    have h1 : 1 < rDr v e := by
      by_cases h1 : n = 1
      · subst h1; simp at h hlt; omega
      · omega
    rw [h3, decide_eq_true h1] at hup
    exact e0 true hup

theorem vl_low {xs : List Nat} (hl : Lm xs) (hn : xs.length ≠ 0) (hlast : xs.getD (xs.length - 1) 0 ≠ 0) (hv : vl xs < 18446744073709551616) : xs = [vl xs] := by
  match xs, hn with
  | [x], _ => simp [vl]
  | x :: y :: ys, _ =>
    exfalso
    have h1 : vl (x :: y :: ys) = x + 18446744073709551616 * vl (y :: ys) := rfl
    have h2 : vl (y :: ys) ≠ 0 := vl_ne_last (by simp) (by simpa using hlast)
    omega
/-- A right dyad that keeps all its bits is a float's. -/
theorem fit_of {d : Dy} (hl : Lm d.mag) (hr : rightB d = true) (hn : d.mag.length ≠ 0) (hg : (bl (vl d.mag) : Int) + d.exp ≤ 1024) (hd : rDr (vl d.mag) d.exp ≤ 0) : fitB d = true := by
  rcases right_cases hr with rfl | ⟨_, hc⟩
  · exact absurd rfl hn
  have hodd : vl d.mag % 2 = 1 := by rw [vl_odd hl hn]; exact hc.2.1
  have h0 : vl d.mag ≠ 0 := by omega
  have hb := bl_spec h0
  have hb53 : bl (vl d.mag) ≤ 53 := by unfold rDr rLa at hd; omega
  have he : -1074 ≤ d.exp := by unfold rDr rLa at hd; omega
  have hlt : vl d.mag < 9007199254740992 := by have := bl_le_iff.1 hb53; omega
  have hm := vl_low hl hn hc.2.2.1 (by omega)
  have hlen : d.mag.length = 1 := by rw [hm]; rfl
  have hlmb : lmb d.mag 0 = vl d.mag := by rw [hm]; simp [lmb, vl]
  obtain ⟨j1, _, _, _⟩ := val_jR h0 hlt he
  have hj : jR (vl d.mag) d.exp < 9218868437227405312 := by
    apply (val_lt_iff _ _).1
    obtain ⟨X, hX, hv⟩ : ∃ X, X = 2046 ∧ val 9218868437227405312 = 4503599627370496 * 2 ^ X := by
      have h1 : mg 9218868437227405312 = 4503599627370496 := by decide
      exact ⟨up 9218868437227405312, by decide, by rw [← mg_up, h1]⟩
    rw [j1, hv]
    calc vl d.mag * 2 ^ (d.exp + 1074).toNat < 2 ^ bl (vl d.mag) * 2 ^ (d.exp + 1074).toNat := (Nat.mul_lt_mul_right (Nat.pow_pos (by omega))).2 hb.2.1
      _ = 2 ^ (bl (vl d.mag) + (d.exp + 1074).toNat) := by rw [Nat.pow_add]
      _ ≤ 2 ^ (52 + X) := Nat.pow_le_pow_right (by omega) (by omega)
      _ = 4503599627370496 * 2 ^ X := by rw [Nat.pow_add]
  unfold fitB okP
  rw [hr, hlmb, if_neg h0, decide_eq_true (by omega), decide_eq_true ⟨hodd, hlt, he, by omega, hj⟩]
  rfl
/-- Whose dyad a right dyad is that fits. -/
theorem fit_float {d : Dy} (hf : fitB d = true) (hn : d.mag.length ≠ 0) : ∃ a, a < 18446744073709551616 ∧ finB a = true ∧ rung a ≠ 0 ∧ d = ⟨sgn a, [spF a], spE a⟩ := by
  unfold fitB at hf
  simp only [Bool.and_eq_true, decide_eq_true_eq] at hf
  obtain ⟨⟨hr, hle⟩, hk⟩ := hf
  obtain ⟨neg, mag, ex⟩ := d
  simp only at *
  have hlen : mag.length = 1 := by omega
  obtain ⟨x, rfl⟩ : ∃ x, mag = [x] := List.length_eq_one_iff.1 hlen
  have hx : lmb [x] 0 = x := rfl
  rw [hx] at hk
  obtain ⟨j1, j2, j3, j4⟩ := split_join (n := neg) hk
  have h0 : x ≠ 0 := by
    rcases right_cases hr with h | ⟨_, hc⟩
    · cases h
    · simp at hc; omega
  have hv : valR x ex < 9218868437227405312 := valR_lt x ex
  have hlt : joinF neg x ex < 18446744073709551616 := by
    unfold joinF
    (repeat' split) <;> omega
  refine ⟨joinF neg x ex, hlt, j1, ?_, by rw [j2, j3, j4]⟩
  intro hz
  have : spF (joinF neg x ex) = 0 := by unfold spF; rw [if_pos hz]
  omega
/-- A finite float's dyad: its number. -/
theorem of_qd {a : Nat} (hf : finB a = true) : (ofD a).2 = 0 ∧ rightB (ofD a).1 = true ∧ Lm (ofD a).1.mag ∧ (ofD a).1.mag.length ≤ 256 ∧ qd (ofD a).1 = (if sgn a then -((val (rung a) * 2 ^ kU : Nat) : Int) else ((val (rung a) * 2 ^ kU : Nat) : Int)) := by
  by_cases h0 : rung a = 0
  · rw [of_nought hf h0, h0]
    refine ⟨rfl, rfl, fun x hx => by simp [dy0] at hx, by simp [dy0], ?_⟩
    rw [val_zero, Nat.zero_mul]
    have : qd dy0 = 0 := by unfold qd; rw [show sv dy0 = 0 from rfl, Int.zero_mul]
    rw [show ((dy0, (0 : Int)).1) = dy0 from rfl, this]
    cases sgn a <;> rfl
  · rw [of_some hf h0]
    obtain ⟨p1, p2, p3⟩ := sp_parts h0
    obtain ⟨b1, b2, b3, b4, b5, b6⟩ := sp_bd hf h0
    refine ⟨rfl, of_right hf h0, lm1 (by omega), by simp, ?_⟩
    have hs : (spF a * 2 ^ (spE a + 65536).toNat : Nat) = val (rung a) * 2 ^ kU := by
      rw [← mg_up, ← p1, Nat.mul_assoc, Nat.mul_assoc, ← Nat.pow_add, ← Nat.pow_add]
      congr 2
      have := kU_eq
      omega
    unfold qd sv
    simp only [show vl [spF a] = spF a by simp [vl]]
    rw [← hs]
    cases sgn a
    · simp
    · simp [Int.neg_mul]
end Go.Proofs.YtjdhadpfhnmkhaaDoor
