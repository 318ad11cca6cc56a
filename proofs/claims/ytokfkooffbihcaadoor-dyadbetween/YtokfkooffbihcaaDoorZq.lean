/- For every input the call returns true and leaves its arguments as they were: DyadBetween; the one condition of its row: the table of the library lies as its own initialiser lays it, which the card ties to the text of the program. -/
import Derived.Test.YtokfkooffbihcaaDoorHc
import Derived.Test.YtokfkooffbihcaaDoorHj
import Derived.Test.YtokfkooffbihcaaDoorEm
import Derived.Test.YtokfkooffbihcaaDoorFz
import Derived.Test.YtokfkooffbihcaaDoorHb
import Derived.Test.YtokfkooffbihcaaDoorHk
import Derived.Test.YtokfkooffbihcaaDoorEl
import Derived.Test.YtokfkooffbihcaaDoorEi
import Derived.Test.YtokfkooffbihcaaDoorLc
import Derived.Test.YtokfkooffbihcaaDoorLd
import Derived.Test.YtokfkooffbihcaaDoorPl
import Derived.Lib.SmallJoins
import Derived.Test.YtokfkooffbihcaaDoorDb
import Derived.Test.YtokfkooffbihcaaDoorDc
import Derived.SizedLaws
import Derived.ChangeSlices
import Derived.Test.YtokfkooffbihcaaDoorTie
import Derived.Test.YtokfkooffbihcaaDoorCards
import Derived.SevenTiedAt
import Derived.Carry
namespace Go.Proofs.YtokfkooffbihcaaDoor

theorem sgI_bd (x : Int) : -1 ≤ sgI x ∧ sgI x ≤ 1 := by unfold sgI; split <;> (try split) <;> omega
theorem sgI_turn (x y : Int) : sgI (y - x) = -sgI (x - y) := by unfold sgI; (repeat' split) <;> omega
theorem sgI_neg (x : Int) : sgI (-x) = -sgI x := by unfold sgI; (repeat' split) <;> omega
theorem sgI_le (x : Int) : sgI x ≤ 0 ↔ x ≤ 0 := by unfold sgI; (repeat' split) <;> omega
theorem sgI_lt (x : Int) : sgI x < 0 ↔ x < 0 := by unfold sgI; (repeat' split) <;> omega
theorem sgI_zero (x : Int) : sgI x = 0 ↔ x = 0 := by unfold sgI; (repeat' split) <;> omega
theorem sgI_cases (x : Int) : (x < 0 ∧ sgI x = -1) ∨ (x = 0 ∧ sgI x = 0) ∨ (0 < x ∧ sgI x = 1) := by unfold sgI; (repeat' split) <;> omega
theorem sgI_mul (x y : Int) : sgI (x * y) = sgI x * sgI y := by
  rcases sgI_cases x with ⟨hx, ex⟩ | ⟨hx, ex⟩ | ⟨hx, ex⟩ <;> rcases sgI_cases y with ⟨hy, ey⟩ | ⟨hy, ey⟩ | ⟨hy, ey⟩ <;> rw [ex, ey]
  · have := Int.mul_pos_of_neg_of_neg hx hy; unfold sgI; rw [if_neg (by omega), if_neg (by omega)]; rfl
  · rw [hy, Int.mul_zero]; rfl
  · have := Int.mul_neg_of_neg_of_pos hx hy; unfold sgI; rw [if_pos this]; rfl
  · rw [hx, Int.zero_mul]; rfl
  · rw [hx, Int.zero_mul]; rfl
  · rw [hx, Int.zero_mul]; rfl
  · have := Int.mul_neg_of_pos_of_neg hx hy; unfold sgI; rw [if_pos this]; rfl
  · rw [hy, Int.mul_zero]; rfl
  · have := Int.mul_pos hx hy; unfold sgI; rw [if_neg (by omega), if_neg (by omega)]; rfl
theorem sgD_qd {d : Dy} (h : rightB d = true) : sgD d = sgI (qd d) := by
  obtain ⟨e, hc⟩ := qd_sign h
  rw [e, sgI_mul]
  rcases hc with ⟨h1, _⟩ | ⟨h1, h2⟩ | ⟨h1, h2⟩
  · rw [h1]; exact (Int.zero_mul _).symm
  · have : sgI (sz d : Int) = 1 := by unfold sgI; rw [if_neg (by omega), if_neg (by omega)]
    rw [h1, this]; rfl
  · have : sgI (sz d : Int) = 1 := by unfold sgI; rw [if_neg (by omega), if_neg (by omega)]
    rw [h1, this]; rfl
theorem ord_same {x y : Dy} (rx : rightB x = true) (ry : rightB y = true) (lx : Lm x.mag) (ly : Lm y.mag) : (sgI (qd x - qd y) == 0) = eqB x y := by
  by_cases h : x = y
  · subst h
    rw [eqB_self, Int.sub_self]; rfl
  · have h1 : eqB x y = false := by
      cases hc : eqB x y
      · rfl
      · exact absurd (eqB_iff.1 hc) h
    rw [h1, beq_eq_false_iff_ne]
    intro h0
    have := (sgI_zero _).1 h0
    exact h (qd_inj lx ly rx ry (by omega))
theorem sub_val {x y : Dy} (rx : rightB x = true) (ry : rightB y = true) (h : (subD x y).2 = 0) : rightB (subD x y).1 = true ∧ qd (subD x y).1 = qd x - qd y := by
  rw [subD_right rx ry] at h ⊢
  exact nrm_q h
theorem subD_lm (x y : Dy) : Lm (subD x y).1.mag := by
  unfold subD
  split
  · exact nrm_lm _ _
  · intro v hv; simp [dy0] at hv
theorem ord_sub {x y : Dy} (rx : rightB x = true) (ry : rightB y = true) (h : (subD x y).2 = 0) : rightB (subD x y).1 = true ∧ sgD (subD x y).1 = sgI (qd x - qd y) := by
  obtain ⟨r, q⟩ := sub_val rx ry h
  exact ⟨r, by rw [sgD_qd r, q]⟩
theorem ord_add {x y z : Dy} (rx : rightB x = true) (ry : rightB y = true) (rz : rightB z = true) (h1 : (addD x z).2 = 0) (h2 : (addD y z).2 = 0) :
    rightB (addD x z).1 = true ∧ rightB (addD y z).1 = true ∧ sgI (qd (addD x z).1 - qd (addD y z).1) = sgI (qd x - qd y) := by
  obtain ⟨r1, q1⟩ := add_val rx rz h1
  obtain ⟨r2, q2⟩ := add_val ry rz h2
  exact ⟨r1, r2, by rw [q1, q2, Int.add_sub_add_right]⟩
theorem ord_mul {x y z : Dy} (rx : rightB x = true) (ry : rightB y = true) (rz : rightB z = true) (h1 : (mulD x z).2 = 0) (h2 : (mulD y z).2 = 0) :
    rightB (mulD x z).1 = true ∧ rightB (mulD y z).1 = true ∧ sgI (qd (mulD x z).1 - qd (mulD y z).1) = sgI (qd x - qd y) * sgD z := by
  obtain ⟨r1, q1⟩ := mul_val rx rz h1
  obtain ⟨r2, q2⟩ := mul_val ry rz h2
  refine ⟨r1, r2, ?_⟩
  rw [sgD_qd rz, ← sgI_mul, Int.sub_mul, ← q1, ← q2, ← Int.sub_mul, sg_mul]
theorem ord_low (x y z : Dy) : (sgI (qd x - qd y) ≤ 0 → sgI (qd y - qd z) ≤ 0 → sgI (qd x - qd z) ≤ 0) ∧ (sgI (qd x - qd y) < 0 → sgI (qd y - qd z) ≤ 0 → sgI (qd x - qd z) < 0) := by
  rw [sgI_le, sgI_le, sgI_le, sgI_lt, sgI_lt]
  omega
end Go.Proofs.YtokfkooffbihcaaDoor

namespace Go.Proofs.YtokfkooffbihcaaDoor
open Go.RowKit

theorem of_nought {a : Nat} (hf : finB a = true) (h0 : rung a = 0) : ofD a = (dy0, 0) := by
  have e1 : spF a = 0 := by unfold spF; rw [if_pos h0]
  unfold ofD; rw [if_neg (by rw [hf]; simp), if_pos e1]
theorem of_some {a : Nat} (hf : finB a = true) (h0 : rung a ≠ 0) : ofD a = (⟨sgn a, [spF a], spE a⟩, 0) := by
  have h1 := (sp_bd hf h0).1
  unfold ofD; rw [if_neg (by rw [hf]; simp), if_neg h1]
theorem of_right {a : Nat} (hf : finB a = true) (h0 : rung a ≠ 0) : rightB ⟨sgn a, [spF a], spE a⟩ = true := by
  obtain ⟨b1, b2, b3, b4, b5, b6⟩ := sp_bd hf h0
  have p2 := (sp_parts h0).2.1
  exact right_of (by simp) ⟨by simp, by simpa using p2, by simpa using b1, by simp only; omega, by simp only; omega⟩
theorem of_round {a : Nat} (ha : a < 18446744073709551616) (hf : finB a = true) (h0 : rung a ≠ 0) (m : Int) : rndW ⟨sgn a, [spF a], spE a⟩ m = a := by
  have e : vl [spF a] = spF a := by simp [vl]
  have hw := rung_of a ha
  unfold rndW
  rw [if_neg (by simp)]
  simp only [e, rSz_self hf h0]
  exact hw.symm
theorem of_fits {a : Nat} (hf : finB a = true) (h0 : rung a ≠ 0) : fitB ⟨sgn a, [spF a], spE a⟩ = true := by
  unfold fitB
  rw [of_right hf h0]
  have : lmb [spF a] 0 = spF a := rfl
  simp only [this, (sp_join hf h0).2]
  rfl
theorem nan_zero' : nanB 0 = false := by decide
theorem place_zero' : place 0 = 0 := by decide
theorem ord_nought {a : Nat} (ha : a < 18446744073709551616) (hf : finB a = true) (h0 : rung a = 0) : (FloatKind.f64.format.order a 0 == some .eq) = true ∧ (FloatKind.f64.format.order a 0 == some .gt) = false ∧ (FloatKind.f64.format.order a 0 == some .lt) = false := by
  have na := finB_nan hf
  have hp : place a = 0 := by unfold place; rw [h0]; split <;> rfl
  have e := ord_eq ha (show 0 < 18446744073709551616 by omega) na nan_zero' (by rw [place_zero']; exact hp)
  rw [e]; exact ⟨rfl, rfl, rfl⟩
theorem ord_some {a : Nat} (ha : a < 18446744073709551616) (hf : finB a = true) (h0 : rung a ≠ 0) : (FloatKind.f64.format.order a 0 == some .eq) = false ∧ (FloatKind.f64.format.order a 0 == some .gt) = (!sgn a) ∧ (FloatKind.f64.format.order a 0 == some .lt) = sgn a := by
  have na := finB_nan hf
  cases hs : sgn a
  · have hp : 0 < place a := by unfold place; rw [hs]; simp; omega
    have e := ord_gt ha (show 0 < 18446744073709551616 by omega) na nan_zero' (by rw [place_zero']; exact hp)
    rw [e]; exact ⟨rfl, rfl, rfl⟩
  · have hp : place a < 0 := by unfold place; rw [hs]; simp; omega
    have e := ord_lt ha (show 0 < 18446744073709551616 by omega) na nan_zero' (by rw [place_zero']; exact hp)
    rw [e]; exact ⟨rfl, rfl, rfl⟩
end Go.Proofs.YtokfkooffbihcaaDoor

namespace Go.Proofs.YtokfkooffbihcaaDoor

theorem odd_unique {m k q z : Nat} (hm : m % 2 = 1) (h : m * 2 ^ k = 2 ^ z * (2 * q + 1)) : k = z ∧ m = 2 * q + 1 := by
  have key : ∀ {x y i j : Nat}, x % 2 = 1 → x * 2 ^ i = y * 2 ^ j → j ≤ i → y % 2 = 1 → i = j ∧ x = y := by
    intro x y i j hx he hji hy
    obtain ⟨d, rfl⟩ : ∃ d, i = j + d := ⟨i - j, by omega⟩
    rw [Nat.pow_add, Nat.mul_comm (2 ^ j), ← Nat.mul_assoc] at he
    have he' := Nat.eq_of_mul_eq_mul_right (Nat.two_pow_pos j) he
    cases d with
    | zero => simp at he'; exact ⟨rfl, he'⟩
    | succ d => rw [Nat.pow_succ, ← Nat.mul_assoc] at he'; omega
  rw [Nat.mul_comm (2 ^ z)] at h
  by_cases hkz : z ≤ k
  · exact key hm h hkz (by omega)
  · have := key (by omega) h.symm (by omega) hm
    exact ⟨this.1.symm, this.2.symm⟩

theorem split_end {a m k : Nat} (h0 : rung a ≠ 0) (hm : m % 2 = 1) (h : m * 2 ^ k = mg (rung a)) : spZ a = k ∧ spF a = m := by
  have hlt := mg_lt (rung a)
  have hne := mg_ne h0
  obtain ⟨q, hq, hz⟩ := Lib.ctzFrom_spec 64 (mg (rung a)) (by omega) (by omega)
  have e : spZ a = Lib.ctzFrom 64 (mg (rung a)) := by unfold spZ Lib.ctz; rw [if_neg hne]
  rw [← e] at hq
  obtain ⟨h1, h2⟩ := odd_unique hm (h.trans hq)
  refine ⟨h1.symm, ?_⟩
  unfold spF
  rw [if_neg h0, ← h1, ← h, Nat.mul_div_cancel _ (Nat.two_pow_pos _)]

theorem val_jR {f : Nat} {e : Int} (h0 : f ≠ 0) (h : f < 9007199254740992) (h1 : -1074 ≤ e) : val (jR f e) = f * 2 ^ (e + 1074).toNat ∧ mg (jR f e) = jM f e ∧ up (jR f e) = jU f e ∧ jR f e ≠ 0 := by
  obtain ⟨j1, j2, j3⟩ := jM_ok h0 h h1
  obtain ⟨m1, m2⟩ := mg_of j1 j3
  have e1 : mg (jR f e) = jM f e := m1
  have e2 : up (jR f e) = jU f e := m2
  have hl := log2_lt53 h0 h
  refine ⟨?_, e1, e2, by unfold jR; omega⟩
  rw [← mg_up, e1, e2]
  unfold jM jU
  by_cases hc : -1022 ≤ e + f.log2
  · rw [if_pos hc, if_pos hc, Nat.mul_assoc, ← Nat.pow_add, show 52 - f.log2 + (e + f.log2 + 1022).toNat = (e + 1074).toNat by omega]
  · rw [if_neg hc, if_neg hc, Nat.pow_zero, Nat.mul_one]
theorem split_join {n : Bool} {f : Nat} {e : Int} (hk : okP f e = true) : finB (joinF n f e) = true ∧ sgn (joinF n f e) = n ∧ spF (joinF n f e) = f ∧ spE (joinF n f e) = e := by
  have hv := valR_lt f e
  have hj : joinF n f e = Ieee.double.word n (valR f e) := by
    unfold joinF; rw [hk]; cases n
    · rfl
    · rw [word_neg]; rfl
  obtain ⟨r1, r2⟩ := word_rung n (r := valR f e) (by omega)
  rw [hj]
  refine ⟨by unfold finB; rw [r1]; simpa using hv, r2, ?_⟩
  by_cases h0 : f = 0
  · have he : e = 0 := by unfold okP at hk; rw [if_pos h0] at hk; simpa using hk
    have hz : valR f e = 0 := by unfold valR; rw [if_pos h0]
    rw [hz] at r1 ⊢
    unfold spF spE
    rw [r1, if_pos rfl, if_pos rfl]
    exact ⟨h0.symm, he.symm⟩
  · have hp : f % 2 = 1 ∧ f < 9007199254740992 ∧ -1074 ≤ e ∧ e ≤ 1023 ∧ jR f e < 9218868437227405312 := by unfold okP at hk; rw [if_neg h0] at hk; simpa using hk
    have hvj : valR f e = jR f e := by unfold valR; rw [if_neg h0, hk]; rfl
    obtain ⟨v1, v2, v3, v4⟩ := val_jR (e := e) h0 hp.2.1 hp.2.2.1
    have hl := log2_lt53 h0 hp.2.1
    rw [hvj] at r1 ⊢
    have hne : rung (Ieee.double.word n (jR f e)) ≠ 0 := by rw [r1]; exact v4
    obtain ⟨k, hk1, hk2⟩ : ∃ k : Nat, f * 2 ^ k = jM f e ∧ (jU f e : Int) - 1074 + k = e := by
      unfold jM jU
      by_cases hc : -1022 ≤ e + f.log2
      · exact ⟨52 - f.log2, by rw [if_pos hc], by rw [if_pos hc]; omega⟩
      · exact ⟨(e + 1074).toNat, by rw [if_neg hc], by rw [if_neg hc]; omega⟩
    obtain ⟨z1, z2⟩ := split_end (a := Ieee.double.word n (jR f e)) (m := f) (k := k) hne hp.1 (by rw [r1, v2]; exact hk1)
    refine ⟨z2, ?_⟩
    unfold spE
    rw [if_neg hne, z1, r1, v3]
    exact hk2
end Go.Proofs.YtokfkooffbihcaaDoor

namespace Go.Proofs.YtokfkooffbihcaaDoor

/-- From a float's least place down to a dyad's. -/
def kU : Nat := 64462
theorem kU_eq : kU = 64462 := rfl
theorem rW_val {k : Nat} {la : Int} (hk : k < 9007199254740992) (hor : la = -1074 ∨ 4503599627370496 ≤ k) : val (rW k la) = k * 2 ^ (la + 1074).toNat ∧ val (rW k la + 1) = (k + 1) * 2 ^ (la + 1074).toNat := by
  have hU : (la + 1074).toNat = 0 ∨ 4503599627370496 ≤ k := by omega
  obtain ⟨e1, e2⟩ := mg_of hk hU
  unfold rW
  refine ⟨?_, ?_⟩
  · rw [← mg_up, e1, e2]
  · rw [val_succ, e1, e2]

/-- Where what is dropped is not nothing: the size below, the one above, the nearer one. -/
theorem rnd_near {v : Nat} {e : Int} (hv : v % 2 = 1) (he : -65536 ≤ e) (hg : (bl v : Int) + e ≤ 1024) (hd : 0 < rDr v e) :
    ∃ s B R D : Nat, rSz v e 3 = s ∧ rSz v e 2 = s + 1 ∧ (rSz v e 0 = s ∨ rSz v e 0 = s + 1) ∧ s < 9218868437227405312 ∧ v = B + R ∧ 0 < R ∧ R < D ∧
      val s * 2 ^ kU = B * 2 ^ (e + 65536).toNat ∧ val (s + 1) * 2 ^ kU = (B + D) * 2 ^ (e + 65536).toNat ∧ (2 * R < D → rSz v e 0 = s) ∧ (D < 2 * R → rSz v e 0 = s + 1) := by
  have h0 : v ≠ 0 := by omega
  obtain ⟨k1, k2, k3, k4, k5⟩ := kept_bd h0 hg
  generalize hla : rLa v e = la at *
  have hdr : rDr v e = la - e := by unfold rDr; rw [hla]
  generalize hdn : (rDr v e).toNat = n at *
  have hn : 0 < n := by omega
  have hsh : shr v (rDr v e) = v / 2 ^ n := by unfold shr; rw [if_pos (by omega), hdn]
  rw [hsh] at k1 k2 k5
  have hD : 0 < 2 ^ n := Nat.pow_pos (by omega)
  have hDM := Nat.div_add_mod v (2 ^ n)
  have hlt := Nat.mod_lt v hD
  have h2 : 2 ^ n = 2 * 2 ^ (n - 1) := by
    have h3 : n = n - 1 + 1 := by omega
    rw [h3, Nat.pow_succ, Nat.mul_comm, Nat.add_sub_cancel]
  have hodd : v % 2 ^ n % 2 = 1 := by
    rw [h2, Nat.mod_mul_right_mod]; exact hv
  have hR : v % 2 ^ n ≠ 0 := by intro h; rw [h] at hodd; cases hodd
  have hbit : win v (rDr v e - 1) % 2 = v / 2 ^ (n - 1) % 2 := by
    unfold win shr
    rw [if_pos (by omega), show (rDr v e - 1).toNat = n - 1 by omega]
    omega
  have hq : v / 2 ^ (n - 1) % 2 = (v % 2 ^ n) / 2 ^ (n - 1) := by
    rw [h2, Nat.mul_comm 2, Nat.mod_mul_right_div_self]
  have hp1 : 0 < 2 ^ (n - 1) := Nat.pow_pos (by omega)
  have hw : win v (rDr v e) = v / 2 ^ n := k1
  have e3 : rSz v e 3 = rW (v / 2 ^ n) la := by
    unfold rSz; rw [if_neg (by omega), hla]; unfold rKp rUp; rw [hw]; simp
  have e2 : rSz v e 2 = rW (v / 2 ^ n) la + 1 := by
    unfold rSz; rw [if_neg (by omega), hla]; unfold rKp rUp; rw [hw, if_pos ⟨hd, by simp⟩]; unfold rW; omega
  have e0 : ∀ b, rUp v (rDr v e) 0 = b → rSz v e 0 = if b then rW (v / 2 ^ n) la + 1 else rW (v / 2 ^ n) la := by
    intro b hb
    unfold rSz; rw [if_neg (by omega), hla]; unfold rKp; rw [hw, hb]
    cases b
    · simp
    · rw [if_pos ⟨hd, rfl⟩, if_pos rfl]; unfold rW; omega
  have hup : rUp v (rDr v e) 0 = ((v % 2 ^ n / 2 ^ (n - 1) == 1) && (decide (1 < rDr v e) || (win v (rDr v e) % 2 == 1))) := by
    unfold rUp; rw [if_pos rfl, hbit, hq]
  have hpow : 2 ^ (la + 1074).toNat * 2 ^ kU = 2 ^ n * 2 ^ (e + 65536).toNat := by
    rw [← Nat.pow_add, ← Nat.pow_add]; congr 1; have := kU_eq; omega
  obtain ⟨v1, v2⟩ := rW_val k2 k5
  refine ⟨rW (v / 2 ^ n) la, 2 ^ n * (v / 2 ^ n), v % 2 ^ n, 2 ^ n, e3, e2, ?_, ?_, by omega, by omega, hlt, ?_, ?_, ?_, ?_⟩
  · have h := e0 _ rfl
    cases hb : rUp v (rDr v e) 0 <;> rw [hb] at h
    · exact Or.inl h
    · exact Or.inr h
  · unfold rW; omega
  · rw [v1, Nat.mul_assoc, hpow, ← Nat.mul_assoc, Nat.mul_comm (v / 2 ^ n)]
  · rw [v2, Nat.mul_assoc, hpow, ← Nat.mul_assoc, Nat.add_mul, Nat.one_mul, Nat.mul_comm (v / 2 ^ n)]
  · intro h
    have hz : v % 2 ^ n / 2 ^ (n - 1) = 0 := Nat.div_eq_of_lt (by omega)
    rw [hz] at hup
    exact e0 false hup
  · intro h
    have h3 : v % 2 ^ n / 2 ^ (n - 1) = 1 := by
      have h4 := Nat.div_mul_le_self (v % 2 ^ n) (2 ^ (n - 1))
      have h5 : v % 2 ^ n / 2 ^ (n - 1) < 2 := (Nat.div_lt_iff_lt_mul hp1).2 (by omega)
      have h6 : 1 ≤ v % 2 ^ n / 2 ^ (n - 1) := (Nat.le_div_iff_mul_le hp1).2 (by omega)
      omega
    have h1 : 1 < rDr v e := by
      by_cases h1 : n = 1
      · subst h1; simp at h hlt; omega
      · omega
    rw [h3, decide_eq_true h1] at hup
    exact e0 true hup

theorem vl_low {xs : List Nat} (hl : Lm xs) (hn : xs.length ≠ 0) (hlast : xs.getD (xs.length - 1) 0 ≠ 0) (hv : vl xs < 18446744073709551616) : xs = [vl xs] := by
  match xs, hn with
  | [x], _ => simp [vl]
  | x :: y :: ys, _ =>
    exfalso
    have h1 : vl (x :: y :: ys) = x + 18446744073709551616 * vl (y :: ys) := rfl
    have h2 : vl (y :: ys) ≠ 0 := vl_ne_last (by simp) (by simpa using hlast)
    omega
/-- A right dyad that keeps all its bits is a float's. -/
theorem fit_of {d : Dy} (hl : Lm d.mag) (hr : rightB d = true) (hn : d.mag.length ≠ 0) (hg : (bl (vl d.mag) : Int) + d.exp ≤ 1024) (hd : rDr (vl d.mag) d.exp ≤ 0) : fitB d = true := by
  rcases right_cases hr with rfl | ⟨_, hc⟩
  · exact absurd rfl hn
  have hodd : vl d.mag % 2 = 1 := by rw [vl_odd hl hn]; exact hc.2.1
  have h0 : vl d.mag ≠ 0 := by omega
  have hb := bl_spec h0
  have hb53 : bl (vl d.mag) ≤ 53 := by unfold rDr rLa at hd; omega
  have he : -1074 ≤ d.exp := by unfold rDr rLa at hd; omega
  have hlt : vl d.mag < 9007199254740992 := by have := bl_le_iff.1 hb53; omega
  have hm := vl_low hl hn hc.2.2.1 (by omega)
  have hlen : d.mag.length = 1 := by rw [hm]; rfl
  have hlmb : lmb d.mag 0 = vl d.mag := by rw [hm]; simp [lmb, vl]
  obtain ⟨j1, _, _, _⟩ := val_jR h0 hlt he
  have hj : jR (vl d.mag) d.exp < 9218868437227405312 := by
    apply (val_lt_iff _ _).1
    obtain ⟨X, hX, hv⟩ : ∃ X, X = 2046 ∧ val 9218868437227405312 = 4503599627370496 * 2 ^ X := by
      have h1 : mg 9218868437227405312 = 4503599627370496 := by decide
      exact ⟨up 9218868437227405312, by decide, by rw [← mg_up, h1]⟩
    rw [j1, hv]
    calc vl d.mag * 2 ^ (d.exp + 1074).toNat < 2 ^ bl (vl d.mag) * 2 ^ (d.exp + 1074).toNat := (Nat.mul_lt_mul_right (Nat.pow_pos (by omega))).2 hb.2.1
      _ = 2 ^ (bl (vl d.mag) + (d.exp + 1074).toNat) := by rw [Nat.pow_add]
      _ ≤ 2 ^ (52 + X) := Nat.pow_le_pow_right (by omega) (by omega)
      _ = 4503599627370496 * 2 ^ X := by rw [Nat.pow_add]
  unfold fitB okP
  rw [hr, hlmb, if_neg h0, decide_eq_true (by omega), decide_eq_true ⟨hodd, hlt, he, by omega, hj⟩]
  rfl
/-- Whose dyad a right dyad is that fits. -/
theorem fit_float {d : Dy} (hf : fitB d = true) (hn : d.mag.length ≠ 0) : ∃ a, a < 18446744073709551616 ∧ finB a = true ∧ rung a ≠ 0 ∧ d = ⟨sgn a, [spF a], spE a⟩ := by
  unfold fitB at hf
  simp only [Bool.and_eq_true, decide_eq_true_eq] at hf
  obtain ⟨⟨hr, hle⟩, hk⟩ := hf
  obtain ⟨neg, mag, ex⟩ := d
  simp only at *
  have hlen : mag.length = 1 := by omega
  obtain ⟨x, rfl⟩ : ∃ x, mag = [x] := List.length_eq_one_iff.1 hlen
  have hx : lmb [x] 0 = x := rfl
  rw [hx] at hk
  obtain ⟨j1, j2, j3, j4⟩ := split_join (n := neg) hk
  have h0 : x ≠ 0 := by
    rcases right_cases hr with h | ⟨_, hc⟩
    · cases h
    · simp at hc; omega
  have hv : valR x ex < 9218868437227405312 := valR_lt x ex
  have hlt : joinF neg x ex < 18446744073709551616 := by
    unfold joinF
    (repeat' split) <;> omega
  refine ⟨joinF neg x ex, hlt, j1, ?_, by rw [j2, j3, j4]⟩
  intro hz
  have : spF (joinF neg x ex) = 0 := by unfold spF; rw [if_pos hz]
  omega
/-- A finite float's dyad: its number. -/
theorem of_qd {a : Nat} (hf : finB a = true) : (ofD a).2 = 0 ∧ rightB (ofD a).1 = true ∧ Lm (ofD a).1.mag ∧ (ofD a).1.mag.length ≤ 256 ∧ qd (ofD a).1 = (if sgn a then -((val (rung a) * 2 ^ kU : Nat) : Int) else ((val (rung a) * 2 ^ kU : Nat) : Int)) := by
  by_cases h0 : rung a = 0
  · rw [of_nought hf h0, h0]
    refine ⟨rfl, rfl, fun x hx => by simp [dy0] at hx, by simp [dy0], ?_⟩
    rw [val_zero, Nat.zero_mul]
    have : qd dy0 = 0 := by unfold qd; rw [show sv dy0 = 0 from rfl, Int.zero_mul]
    rw [show ((dy0, (0 : Int)).1) = dy0 from rfl, this]
    cases sgn a <;> rfl
  · rw [of_some hf h0]
    obtain ⟨p1, p2, p3⟩ := sp_parts h0
    obtain ⟨b1, b2, b3, b4, b5, b6⟩ := sp_bd hf h0
    refine ⟨rfl, of_right hf h0, lm1 (by omega), by simp, ?_⟩
    have hs : (spF a * 2 ^ (spE a + 65536).toNat : Nat) = val (rung a) * 2 ^ kU := by
      rw [← mg_up, ← p1, Nat.mul_assoc, Nat.mul_assoc, ← Nat.pow_add, ← Nat.pow_add]
      congr 2
      have := kU_eq
      omega
    unfold qd sv
    simp only [show vl [spF a] = spF a by simp [vl]]
    rw [← hs]
    cases sgn a
    · simp
    · simp [Int.neg_mul]
end Go.Proofs.YtokfkooffbihcaaDoor

namespace Go.Proofs.YtokfkooffbihcaaDoor
open Go.RowKit

set_option maxHeartbeats 4000000 in
set_option maxRecDepth 100000 in
theorem btw_fit (a d : Dy) (ao : Option Addr) (ac lo hi x z : Nat) (w : World) (ra : LRow w ao a.mag) (la : Lm a.mag) (sa : ao = none → ac = 0 ∧ a.mag.length = 0) (na : a.mag.length ≤ 17592186044416) (hT : TabW w)
    (hd : normD a = (d, 0)) (ld : Lm d.mag) (rd : Hid (rightB d = true)) (h1 : rndW ⟨d.neg, d.mag, d.exp⟩ 1 = lo) (h2 : rndW ⟨d.neg, d.mag, d.exp⟩ 2 = hi) (h3 : rndW ⟨d.neg, d.mag, d.exp⟩ 0 = x) (h4 : rndW ⟨d.neg, d.mag, d.exp⟩ 3 = z)
    (hf : fitB ⟨d.neg, d.mag, d.exp⟩ = true) (hlo : lo < 18446744073709551616) (e2 : Hid (hi = lo)) (e3 : Hid (x = lo)) (e4 : Hid (z = lo)) (hof : ofD lo = (d, 0)) (nd : d.mag.length ≤ 256) :
    Calls Tryd.prog 4 #[.agg #[.bool a.neg, .slice ao a.mag.length ac, .int .i64 a.exp]] w fun e w' => e = .returned (.bool true) ∧ Below w.heap.size w w' := by
  have hno := fun o' c' w' hr' hT' => norm_any a o' c' w' hr' la hT' (by omega)
  rw [hd] at hno
  have hcp := fun w' hr' => copyDyad_any a ao ac w' hr' sa na
  clear hd sa
  go_enter Tryd.func4, Tryd.ntmps4
  go_upto_region 3 with (go_at_call 5; refine (awake_any _ (tabW_alloc hT _)).mono ?_; rintro e w1 ⟨rfl, hb1⟩)
  obtain ⟨⟨c0, c1, c2⟩, ho1⟩ := one_box hb1
  clear hb1
  go_cut [30, 31, 32, 33, 34, 35, 3, 4] (fun _ _ _ _ _ _ s3 s4 wx => ∃ P o c, s3 = .pointer (some ⟨P, 0, none⟩) ∧ s4 = .int .i64 0 ∧ Hd wx P d o c ∧ Below w.heap.size w wx)
  case first =>
    as_aux_lemma =>
      have rq := ra.below ho1
      have hTq := tabW_below hT ho1
      go_wp2_with (first | (go_at_call 14; refine (hcp _ rq).mono ?_; rintro e w2 ⟨co', cc', rfl, hrc', _, hbc⟩) | (go_at_call 13; refine (hno co' cc' _ hrc' (tabW_below hTq hbc)).mono ?_; rintro e w3 ⟨xo, xc, rfl, hrx, hfx, hbx⟩))
      go_meet
      have hB' := hbc.trans (hbx.mono hbc.size)
      have hB'' := hB'.alloc hB'.size (dyO d xo xc)
      exact ⟨_, xo, xc, rfl, rfl, Hd.new hrx, ho1.trans (hB''.mono ho1.size)⟩
  obtain ⟨P, o, c, rfl, rfl, H, hB⟩ := hcut
  obtain ⟨wq, hwq⟩ : ∃ wq, wq = wc := ⟨_, rfl⟩
  subst hwq
  clear c0 c1 c2 ho1 ra hno hcp
  go_upto_region 6 with fail
  go_cut [38, 39, 40, 41, 42, 5, 6] (fun _ _ _ _ _ s1 s2 wx => s1 = .float .f64 lo ∧ s2 = .int .i64 0 ∧ Hd wx P d o c ∧ Below w.heap.size w wx)
  case first =>
    as_aux_lemma =>
      have hc := Round_ok d.neg d.mag d.exp o c 1 wq H.row ld rd.out
      rw [h1] at hc
      obtain ⟨a0, a1, a2, ar⟩ := H
      go_wp2_with (go_at_call 15; refine hc.mono ?_; rintro e w1 ⟨rfl, hb1⟩)
      go_meet
      exact ⟨rfl, rfl, (Hd.mk a0 a1 a2 ar).below hb1, hB.trans (hb1.mono hB.size)⟩
  obtain ⟨rfl, rfl, H, hB⟩ := hcut
  obtain ⟨wq, hwq⟩ : ∃ wq, wq = wc := ⟨_, rfl⟩
  subst hwq
  go_upto_region 7 with fail
  go_cut [43, 44, 45, 46, 47, 7, 8] (fun _ _ _ _ _ s1 s2 wx => s1 = .float .f64 hi ∧ s2 = .int .i64 0 ∧ Hd wx P d o c ∧ Below w.heap.size w wx)
  case first =>
    as_aux_lemma =>
      have hc := Round_ok d.neg d.mag d.exp o c 2 wq H.row ld rd.out
      rw [h2] at hc
      obtain ⟨a0, a1, a2, ar⟩ := H
      go_wp2_with (go_at_call 15; refine hc.mono ?_; rintro e w1 ⟨rfl, hb1⟩)
      go_meet
      exact ⟨rfl, rfl, (Hd.mk a0 a1 a2 ar).below hb1, hB.trans (hb1.mono hB.size)⟩
  obtain ⟨rfl, rfl, H, hB⟩ := hcut
  obtain ⟨wq, hwq⟩ : ∃ wq, wq = wc := ⟨_, rfl⟩
  subst hwq
  go_upto_region 8 with fail
  go_cut [48, 49, 50, 51, 52, 9, 10] (fun _ _ _ _ _ s1 s2 wx => s1 = .float .f64 x ∧ s2 = .int .i64 0 ∧ Hd wx P d o c ∧ Below w.heap.size w wx)
  case first =>
    as_aux_lemma =>
      have hc := Round_ok d.neg d.mag d.exp o c 0 wq H.row ld rd.out
      rw [h3] at hc
      obtain ⟨a0, a1, a2, ar⟩ := H
      go_wp2_with (go_at_call 15; refine hc.mono ?_; rintro e w1 ⟨rfl, hb1⟩)
      go_meet
      exact ⟨rfl, rfl, (Hd.mk a0 a1 a2 ar).below hb1, hB.trans (hb1.mono hB.size)⟩
  obtain ⟨rfl, rfl, H, hB⟩ := hcut
  obtain ⟨wq, hwq⟩ : ∃ wq, wq = wc := ⟨_, rfl⟩
  subst hwq
  go_upto_region 9 with fail
  go_cut [53, 54, 55, 56, 57, 11, 12] (fun _ _ _ _ _ s1 s2 wx => s1 = .float .f64 z ∧ s2 = .int .i64 0 ∧ Hd wx P d o c ∧ Below w.heap.size w wx)
  case first =>
    as_aux_lemma =>
      have hc := Round_ok d.neg d.mag d.exp o c 3 wq H.row ld rd.out
      rw [h4] at hc
      obtain ⟨a0, a1, a2, ar⟩ := H
      go_wp2_with (go_at_call 15; refine hc.mono ?_; rintro e w1 ⟨rfl, hb1⟩)
      go_meet
      exact ⟨rfl, rfl, (Hd.mk a0 a1 a2 ar).below hb1, hB.trans (hb1.mono hB.size)⟩
  obtain ⟨rfl, rfl, H, hB⟩ := hcut
  obtain ⟨wq, hwq⟩ : ∃ wq, wq = wc := ⟨_, rfl⟩
  subst hwq
  go_upto_region 12 with fail
  go_cut [72, 73] (fun _ s73 wx => s73 = .bool true ∧ Hd wx P d o c ∧ Below w.heap.size w wx)
  case first =>
    as_aux_lemma =>
      have hc := Fits_any d.neg d.mag d.exp o c wq H.row ld
      rw [hf] at hc
      obtain ⟨a0, a1, a2, ar⟩ := H
      go_wp2_with (go_at_call 16; refine hc.mono ?_; rintro e w1 ⟨rfl, hb1⟩)
      go_meet
      exact ⟨rfl, (Hd.mk a0 a1 a2 ar).below hb1, hB.trans (hb1.mono hB.size)⟩
  obtain ⟨rfl, H, hB⟩ := hcut
  obtain ⟨wq, hwq⟩ : ∃ wq, wq = wc := ⟨_, rfl⟩
  subst hwq
  go_upto_region 13 with fail
  go_cut [74, 75, 76, 77, 78, 13, 14] (fun _ _ _ _ _ s13 s14 wx => ∃ P' o' c', s13 = .pointer (some ⟨P', 0, none⟩) ∧ s14 = .int .i64 0 ∧ Hd wx P' d o' c' ∧ Hd wx P d o c ∧ Below w.heap.size w wx)
  case first =>
    as_aux_lemma =>
      have hc := Of_any lo hlo wq (tabW_below hT hB)
      rw [hof] at hc
      go_wp2_with (go_at_call 17; refine hc.mono ?_; rintro e w1 ⟨xo', xc', rfl, hrn, _, hb1⟩)
      go_meet
      have hB1 := hb1.alloc hb1.size (dyO d xo' xc')
      exact ⟨_, xo', xc', rfl, rfl, Hd.new hrn, H.below hB1, hB.trans (hB1.mono hB.size)⟩
  obtain ⟨P', o', c', rfl, rfl, H', H, hB⟩ := hcut
  obtain ⟨wq, hwq⟩ : ∃ wq, wq = wc := ⟨_, rfl⟩
  subst hwq
  have hsd := sameDyad_any d d o' o c' c wq H'.row H.row (by omega)
  rw [eqB_self] at hsd
  have hsf := samef_any lo lo hlo hlo
  rw [show sameB lo lo = true by unfold sameB; cases nanB lo <;> simp] at hsf
  obtain rfl : hi = lo := e2.out
  obtain rfl : x = hi := e3.out
  obtain rfl : z = x := e4.out
  obtain ⟨a0, a1, a2, ar⟩ := H
  obtain ⟨b0, b1, b2, br⟩ := H'
  clear h1 h2 h3 h4 hof
  go_wp2_with (first
    | (go_at_call 18; refine (hsf _).mono ?_; rintro e w1 ⟨rfl, rfl⟩)
    | (go_at_call 8; refine hsd.mono ?_; rintro e w2 ⟨rfl, hb2⟩))
  go_ret
  exact ⟨rfl, hB.trans (hb2.mono hB.size)⟩
end Go.Proofs.YtokfkooffbihcaaDoor

namespace Go.Proofs.YtokfkooffbihcaaDoor
open Go.RowKit

set_option maxHeartbeats 2000000 in
set_option maxRecDepth 100000 in
theorem btw_early (a d : Dy) (k : Int) (ao : Option Addr) (ac : Nat) (w : World) (ra : LRow w ao a.mag) (la : Lm a.mag) (sa : ao = none → ac = 0 ∧ a.mag.length = 0) (na : a.mag.length ≤ 17592186044416) (hT : TabW w)
    (hd : normD a = (d, k)) (hk : (k != 0) = true) :
    Calls Tryd.prog 4 #[.agg #[.bool a.neg, .slice ao a.mag.length ac, .int .i64 a.exp]] w fun e w' => e = .returned (.bool true) ∧ Below w.heap.size w w' := by
  have hno := fun o' c' w' hr' hT' => norm_any a o' c' w' hr' la hT' (by omega)
  rw [hd] at hno
  have hcp := fun w' hr' => copyDyad_any a ao ac w' hr' sa na
  clear hd sa
  go_enter Tryd.func4, Tryd.ntmps4
  go_upto_region 3 with (go_at_call 5; refine (awake_any _ (tabW_alloc hT _)).mono ?_; rintro e w1 ⟨rfl, hb1⟩)
  obtain ⟨⟨c0, c1, c2⟩, ho1⟩ := one_box hb1
  clear hb1
  have rq := ra.below ho1
  have hTq := tabW_below hT ho1
  go_wp2_with (first | (go_at_call 14; refine (hcp _ rq).mono ?_; rintro e w2 ⟨co', cc', rfl, hrc', _, hbc⟩) | (go_at_call 13; refine (hno co' cc' _ hrc' (tabW_below hTq hbc)).mono ?_; rintro e w3 ⟨xo, xc, rfl, hrx, hfx, hbx⟩))
  go_ret
  have hB' := hbc.trans (hbx.mono hbc.size)
  have hB'' := hB'.alloc hB'.size (dyO d xo xc)
  exact ⟨rfl, ho1.trans (hB''.mono ho1.size)⟩

theorem same_refl (x : Nat) : sameB x x = true := by unfold sameB; cases nanB x <;> simp
theorem btw_two {lo hi : Nat} (nl : nanB lo = false) (nh : nanB hi = false) (h : place hi = place lo + 1) : btwN lo hi = 1 ∧ btwB lo hi = true := by
  have e : btwB lo hi = true := by unfold btwB; rw [nl, nh]; simp; omega
  refine ⟨?_, e⟩
  unfold btwN; rw [e]; simp; omega
/-- The two ends' words next to each other, by the sign. -/
theorem ends_next {s : Nat} (h : s < 9218868437227405312) :
    (btwN s (s + 1) = 1 ∧ btwB s (s + 1) = true) ∧ (btwN (9223372036854775808 + (s + 1)) (9223372036854775808 + s) = 1 ∧ btwB (9223372036854775808 + (s + 1)) (9223372036854775808 + s) = true) := by
  have p1 : place s = s := place_small (by omega)
  have p2 : place (s + 1) = (s : Int) + 1 := by rw [place_small (by omega)]; omega
  have big : ∀ r, r < 9223372036854775808 → place (9223372036854775808 + r) = -(r : Int) ∧ rung (9223372036854775808 + r) = r := fun r hr => by
    have e1 : rung (9223372036854775808 + r) = r := by unfold rung; omega
    have e2 : sgn (9223372036854775808 + r) = true := by unfold sgn; simp
    exact ⟨by unfold place; rw [e1, e2]; rfl, e1⟩
  have nb : ∀ r, r ≤ 9218868437227405312 → nanB (9223372036854775808 + r) = false := fun r hr => by unfold nanB; rw [(big r (by omega)).2]; simp; omega
  refine ⟨btw_two (nan_small (by omega)) (nan_small (by omega)) (by rw [p1, p2]), btw_two (nb _ (by omega)) (nb _ (by omega)) ?_⟩
  rw [(big _ (by omega)).1, (big _ (by omega)).1]; omega

/-- What does not fit, its ends and its roundings told. -/
theorem btw_core (a d : Dy) (ao : Option Addr) (ac lo hi x z : Nat) (w : World) (ra : LRow w ao a.mag) (la : Lm a.mag) (sa : ao = none → ac = 0 ∧ a.mag.length = 0) (na : a.mag.length ≤ 17592186044416) (hT : TabW w)
    (hd : normD a = (d, 0)) (ld : Lm d.mag) (rd : rightB d = true) (h1 : rndW d 1 = lo) (h2 : rndW d 2 = hi) (h3 : rndW d 0 = x) (h4 : rndW d 3 = z) (hf : fitB d = false)
    (hlo : lo < 18446744073709551616) (hhi : hi < 18446744073709551616) (hx : x = lo ∨ x = hi) (tw : Nat) (htw : (sgD d < 0 ∧ tw = hi) ∨ (¬ sgD d < 0 ∧ tw = lo)) (hz : z = tw) (hb : btwN lo hi = 1 ∧ btwB lo hi = true)
    (hq : finB lo = true → finB hi = true → qd (ofD lo).1 < qd d ∧ qd d < qd (ofD hi).1 ∧ (qd d - qd (ofD lo).1 < qd (ofD hi).1 - qd d → x = lo) ∧ (qd (ofD hi).1 - qd d < qd d - qd (ofD lo).1 → x = hi)) :
    Calls Tryd.prog 4 #[.agg #[.bool a.neg, .slice ao a.mag.length ac, .int .i64 a.exp]] w fun e w' => e = .returned (.bool true) ∧ Below w.heap.size w w' := by
  have htl : tw < 18446744073709551616 := by rcases htw with ⟨_, h⟩ | ⟨_, h⟩ <;> omega
  have hxl : x < 18446744073709551616 := by rcases hx with h | h <;> omega
  have hlh : sameB x lo = false → sameB x hi = true := by
    intro h
    rcases hx with e | e
    · rw [e, same_refl] at h; cases h
    · rw [e]; exact same_refl _
  by_cases hfi : finB lo = true ∧ finB hi = true
  · obtain ⟨q1, q2, q3, q4⟩ := hq hfi.1 hfi.2
    obtain ⟨l1, l2, l3, l4, _⟩ := of_qd hfi.1
    obtain ⟨r1, r2, r3, r4, _⟩ := of_qd hfi.2
    have el : ofD lo = ((ofD lo).1, 0) := by rw [← l1]
    have er : ofD hi = ((ofD hi).1, 0) := by rw [← r1]
    refine btw_fin a d ao ac lo hi x z w ra la sa na hT hd ld rd h1 h2 h3 h4 hf hlo hhi hxl (by omega) (sgD d) tw htl rfl htw hb.1 hb.2 (by rw [hz]; exact same_refl _) (sameB x lo) (sameB x hi) rfl rfl hlh
      hfi.1 hfi.2 (ofD lo).1 (ofD hi).1 (subD d (ofD lo).1).1 (subD (ofD hi).1 d).1 (subD d (ofD lo).1).2 (subD (ofD hi).1 d).2 (sgI (qd d - qd (ofD lo).1 - (qd (ofD hi).1 - qd d))) el er l3 r3 (subD_lm _ _) (subD_lm _ _) l2 r2 ?_ ?_ rfl rfl ?_ ?_ ?_
    · unfold sgI; rw [if_pos (by omega)]
    · unfold sgI; rw [if_pos (by omega)]
    · intro e1 e2
      obtain ⟨s1, s2⟩ := sub_val rd l2 e1
      obtain ⟨s3, s4⟩ := sub_val r2 rd e2
      exact ⟨s1, s3, by rw [s2, s4]⟩
    · intro h
      rw [q3 (by have := (sgI_lt _).1 h; omega)]; exact same_refl _
    · intro h
      have h5 : ¬ (qd d - qd (ofD lo).1 - (qd (ofD hi).1 - qd d)) ≤ 0 := fun h6 => by have := (sgI_le _).2 h6; omega
      rw [q4 (by omega)]; exact same_refl _
  · refine btw_inf a d ao ac lo hi x z w ra la sa na hT hd ld rd h1 h2 h3 h4 hf hlo hhi hxl (by omega) (sgD d) tw htl rfl htw hb.1 hb.2 (by rw [hz]; exact same_refl _) (sameB x lo) (sameB x hi) rfl rfl hlh ?_
    cases g1 : finB lo
    · exact Or.inl rfl
    · cases g2 : finB hi
      · exact Or.inr rfl
      · exact absurd ⟨g1, g2⟩ hfi
end Go.Proofs.YtokfkooffbihcaaDoor

namespace Go.Proofs.YtokfkooffbihcaaDoor
open Go.RowKit

theorem nrm_len (m e : Int) : (nrm m e).1.mag.length ≤ 256 := by
  by_cases h : (nrm m e).2 = 0
  · exact (right_exp (nrm_ok h).1).2.2
  · rw [nrm_exp h]; simp [dy0]
theorem addD_len (d e : Dy) : (addD d e).1.mag.length ≤ 256 := by
  unfold addD
  split
  · exact nrm_len _ _
  · simp [dy0]
theorem mulD_len (d e : Dy) : (mulD d e).1.mag.length ≤ 256 := by
  unfold mulD
  split
  · exact nrm_len _ _
  · simp [dy0]
theorem addD_comm (x y : Dy) : addD x y = addD y x := by unfold addD; rw [Bool.and_comm, Int.add_comm]

end Go.Proofs.YtokfkooffbihcaaDoor

namespace Go.Proofs.YtokfkooffbihcaaDoor
open Go.RowKit

theorem rnd_un {d : Dy} (hn : d.mag.length ≠ 0) (m : Int) : rndW d m = if d.neg then 9223372036854775808 + rSz (vl d.mag) d.exp (szm d.neg m) else rSz (vl d.mag) d.exp (szm d.neg m) := by
  unfold rndW; rw [if_neg hn]
theorem sgD_un {d : Dy} (hn : d.mag.length ≠ 0) : sgD d = if d.neg then -1 else 1 := by unfold sgD; rw [if_neg hn]
theorem qd_un (d : Dy) : qd d = if d.neg then -((vl d.mag * 2 ^ (d.exp + 65536).toNat : Nat) : Int) else ((vl d.mag * 2 ^ (d.exp + 65536).toNat : Nat) : Int) := by
  unfold qd sv
  cases d.neg
  · simp
  · simp [Int.neg_mul]
theorem fin_small {s : Nat} (h : s < 9218868437227405312) : rung s = s ∧ sgn s = false := ⟨rung_small (by omega), sgn_small (by omega)⟩
theorem fin_big {s : Nat} (h : s < 9223372036854775808) : rung (9223372036854775808 + s) = s ∧ sgn (9223372036854775808 + s) = true := by
  unfold rung sgn; exact ⟨by omega, by simp⟩
/-- The numbers: what lies between its two neighbours, and which is nearer. -/
theorem btw_nums {B R D E : Nat} (h0 : 0 < R) (h1 : R < D) (hE : 0 < E) :
    B * E < (B + R) * E ∧ (B + R) * E < (B + D) * E ∧ ((B + R) * E - B * E < (B + D) * E - (B + R) * E → 2 * R < D) ∧ ((B + D) * E - (B + R) * E < (B + R) * E - B * E → D < 2 * R) := by
  have e1 : (B + R) * E = B * E + R * E := Nat.add_mul _ _ _
  have e2 : (B + D) * E = B * E + D * E := Nat.add_mul _ _ _
  have hY : 0 < R * E := Nat.mul_pos h0 hE
  have hZ : R * E < D * E := (Nat.mul_lt_mul_right hE).2 h1
  have c1 : ¬ 2 * R < D → D * E ≤ 2 * (R * E) := fun h => by
    have := Nat.mul_le_mul_right E (show D ≤ 2 * R by omega)
    rw [Nat.mul_assoc] at this; exact this
  have c2 : ¬ D < 2 * R → 2 * (R * E) ≤ D * E := fun h => by
    have := Nat.mul_le_mul_right E (show 2 * R ≤ D by omega)
    rw [Nat.mul_assoc] at this; exact this
  rw [e1, e2]
  generalize B * E = X at *
  generalize R * E = Y at *
  generalize D * E = Z at *
  refine ⟨by omega, by omega, fun h => ?_, fun h => ?_⟩
  · by_cases g : 2 * R < D
    · exact g
    · have := c1 g; omega
  · by_cases g : D < 2 * R
    · exact g
    · have := c2 g; omega

theorem btw_law (a : Dy) (ao : Option Addr) (ac : Nat) (w : World) (ra : LRow w ao a.mag) (la : Lm a.mag) (sa : ao = none → ac = 0 ∧ a.mag.length = 0) (na : a.mag.length ≤ 17592186044416) (hT : TabW w) :
    Calls Tryd.prog 4 #[.agg #[.bool a.neg, .slice ao a.mag.length ac, .int .i64 a.exp]] w fun e w' => e = .returned (.bool true) ∧ Below w.heap.size w w' := by
  obtain ⟨⟨d, k⟩, hd⟩ : ∃ r, normD a = r := ⟨_, rfl⟩
  cases hk : (k != 0)
  case true => exact btw_early a d k ao ac w ra la sa na hT hd hk
  have k0 : k = 0 := by simpa using hk
  subst k0
  have hd' : nrm (sv a) a.exp = (d, 0) := hd
  have hz : (nrm (sv a) a.exp).2 = 0 := by rw [hd']
  have rd := (nrm_ok hz).1
  have ld := nrm_lm (sv a) a.exp
  have nd := nrm_len (sv a) a.exp
  rw [hd'] at rd ld nd
  simp only at rd ld nd
  clear hd' hz
  by_cases hn : d.mag.length = 0
  · have e : d = dy0 := by
      rcases right_cases rd with h | ⟨h, _⟩
      · exact h
      · exact absurd hn h
    subst e
    exact btw_fit a dy0 ao ac 0 0 0 0 w ra la sa na hT hd ld rd rfl rfl rfl rfl (by kernel_rfl) (by omega) rfl rfl rfl (by kernel_rfl) nd
  cases hf : fitB d
  case true =>
    obtain ⟨x, hx, fx, x0, e⟩ := fit_float hf hn
    have r : ∀ m, rndW d m = x := fun m => by rw [e]; exact of_round hx fx x0 m
    exact btw_fit a d ao ac x x x x w ra la sa na hT hd ld rd (r 1) (r 2) (r 0) (r 3) hf hx rfl rfl rfl (by rw [of_some fx x0, ← e]) nd
  have hc : d.mag.getD 0 0 % 2 = 1 := by
    rcases right_cases rd with h | ⟨_, h⟩
    · rw [h] at hn; exact absurd rfl hn
    · exact h.2.1
  have hodd : vl d.mag % 2 = 1 := by rw [vl_odd ld hn]; exact hc
  have he := (right_exp rd).1
  have hr := rnd_un hn
  have hs := sgD_un hn
  have hq := qd_un d
  by_cases hg : 1024 < (bl (vl d.mag) : Int) + d.exp
  · have z3 : rSz (vl d.mag) d.exp 3 = 9218868437227405311 := by unfold rSz; rw [if_pos hg]; rfl
    have z2 : rSz (vl d.mag) d.exp 2 = 9218868437227405312 := by unfold rSz; rw [if_pos hg]; rfl
    have z0 : rSz (vl d.mag) d.exp 0 = 9218868437227405312 := by unfold rSz; rw [if_pos hg]; rfl
    have hen := ends_next (s := 9218868437227405311) (by omega)
    cases hneg : d.neg <;> rw [hneg] at hr hs
    · refine btw_core a d ao ac 9218868437227405311 9218868437227405312 9218868437227405312 9218868437227405311 w ra la sa na hT hd ld rd ?_ ?_ ?_ ?_ hf (by omega) (by omega) (Or.inr rfl) 9218868437227405311 (Or.inr ⟨by rw [hs]; decide, rfl⟩) rfl hen.1 (fun _ h => absurd h (by decide))
      · rw [hr]; exact z3
      · rw [hr]; exact z2
      · rw [hr]; exact z0
      · rw [hr]; exact z3
    · refine btw_core a d ao ac 18442240474082181120 18442240474082181119 18442240474082181120 18442240474082181119 w ra la sa na hT hd ld rd ?_ ?_ ?_ ?_ hf (by omega) (by omega) (Or.inl rfl) 18442240474082181119 (Or.inl ⟨by rw [hs]; decide, rfl⟩) rfl hen.2 (fun h => absurd h (by decide))
      · rw [hr]; exact congrArg (9223372036854775808 + ·) z2
      · rw [hr]; exact congrArg (9223372036854775808 + ·) z3
      · rw [hr]; exact congrArg (9223372036854775808 + ·) z0
      · rw [hr]; exact congrArg (9223372036854775808 + ·) z3
  · have hdr : 0 < rDr (vl d.mag) d.exp := by
      by_cases h : 0 < rDr (vl d.mag) d.exp
      · exact h
      · rw [fit_of ld rd hn (by omega) (by omega)] at hf; cases hf
    obtain ⟨s, B, R, D, e3, e2, e0, hsl, hv, hR0, hRD, v1, v2, n1, n2⟩ := rnd_near hodd he (by omega) hdr
    have hE : 0 < 2 ^ (d.exp + 65536).toNat := Nat.pow_pos (by omega)
    have hen := ends_next hsl
    rw [hv] at hq
    obtain ⟨m1, m2, m3, m4⟩ := btw_nums (B := B) hR0 hRD hE
    rw [← v1] at m1 m3 m4
    rw [← v2] at m2 m3 m4
    generalize (B + R) * 2 ^ (d.exp + 65536).toNat = M at *
    cases hneg : d.neg <;> rw [hneg] at hr hs hq
    · refine btw_core a d ao ac s (s + 1) (rSz (vl d.mag) d.exp 0) s w ra la sa na hT hd ld rd ?_ ?_ ?_ ?_ hf (by omega) (by omega) e0 s (Or.inr ⟨by rw [hs]; decide, rfl⟩) rfl hen.1 ?_
      · rw [hr]; exact e3
      · rw [hr]; exact e2
      · rw [hr]; rfl
      · rw [hr]; exact e3
      · intro f1 f2
        have q1 := (of_qd f1).2.2.2.2
        have q2 := (of_qd f2).2.2.2.2
        have hs1 : s + 1 < 9218868437227405312 := by unfold finB at f2; rw [rung_small (by omega)] at f2; simpa using f2
        rw [(fin_small hsl).1, (fin_small hsl).2] at q1
        rw [(fin_small hs1).1, (fin_small hs1).2] at q2
        simp only [Bool.false_eq_true, if_false] at q1 q2 hq
        rw [q1, q2, hq]
        refine ⟨by omega, by omega, fun h => n1 (m3 (by omega)), fun h => n2 (m4 (by omega))⟩
    · refine btw_core a d ao ac (9223372036854775808 + (s + 1)) (9223372036854775808 + s) (9223372036854775808 + rSz (vl d.mag) d.exp 0) (9223372036854775808 + s) w ra la sa na hT hd ld rd ?_ ?_ ?_ ?_ hf (by omega) (by omega) ?_ (9223372036854775808 + s) (Or.inl ⟨by rw [hs]; decide, rfl⟩) rfl hen.2 ?_
      · rw [hr]; exact congrArg (9223372036854775808 + ·) e2
      · rw [hr]; exact congrArg (9223372036854775808 + ·) e3
      · rw [hr]; rfl
      · rw [hr]; exact congrArg (9223372036854775808 + ·) e3
      · rcases e0 with h | h
        · exact Or.inr (by rw [h])
        · exact Or.inl (by rw [h])
      · intro f1 f2
        have q1 := (of_qd f1).2.2.2.2
        have q2 := (of_qd f2).2.2.2.2
        rw [(fin_big (s := s + 1) (by omega)).1, (fin_big (s := s + 1) (by omega)).2] at q1
        rw [(fin_big (s := s) (by omega)).1, (fin_big (s := s) (by omega)).2] at q2
        simp only [if_true] at q1 q2 hq
        rw [q1, q2, hq]
        refine ⟨by omega, by omega, fun h => by rw [n2 (m4 (by omega))], fun h => by rw [n1 (m3 (by omega))]⟩
end Go.Proofs.YtokfkooffbihcaaDoor

namespace Go.Proofs.YtokfkooffbihcaaDoor
open Go.ChangeShapes Go.WideShapes Go.ChangeAt Go.RowKit Go.Joins

theorem i64_bd {n : Int} (h : (Lit.int .i64 n).wf = true) : -9223372036854775808 ≤ n ∧ n ≤ 9223372036854775807 := by
  simpa [Lit.wf, IntKind.min, IntKind.max, IntKind.signed, IntKind.bits] using h
theorem u64_bd {n : Int} (h : (Lit.int .u64 n).wf = true) : 0 ≤ n ∧ n ≤ 18446744073709551615 := by
  simpa [Lit.wf, IntKind.min, IntKind.max, IntKind.signed, IntKind.bits] using h
theorem cParts : Tryd.prog.cellsOf 65 = 3 := by kernel_rfl

theorem open_parts {H : Type} {enc : TypeId × Value → H} {w : World} {base : Nat} {spare : Nat → Bool} {held : Bool} {r : Reach} {b0 : Nat} {v : Value} {d : DataW H} {p : List MemPlace}
    (hv : Value.okWide Tryd.prog w r b0 65 v) (h : DataW.Trod enc Tryd.prog w base spare held 65 v d p) :
    ∃ (n : Bool) (f : Nat) (e : Int), (Lit.int .u64 (f : Int)).wf = true ∧ (Lit.int .i64 e).wf = true ∧ v = .agg #[.bool n, .int .u64 f, .int .i64 e] ∧ d = .agg [.lit (.bool n), .lit (.int .u64 f), .lit (.int .i64 e)] ∧ p = [] := by
  obtain ⟨v0, v1, v2, y0, y1, y2, k, rfl, rfl, rfl, h0, h1, h2⟩ := open_agg3 Tryd.underlying65 (by kernel_rfl) cParts hv h
  obtain ⟨n, e0, rfl⟩ := DataW.trod_bool Tryd.underlying4 h0
  obtain ⟨f, e1, rfl, wf⟩ := DataW.trod_int Tryd.underlying46 h1
  obtain ⟨e, e2, rfl, we⟩ := DataW.trod_int Tryd.underlying3 h2
  simp at e0 e1 e2
  subst e0 e1 e2
  obtain ⟨g, rfl⟩ := Int.eq_ofNat_of_zero_le (u64_bd wf).1
  exact ⟨n, g, e, wf, we, rfl, rfl, rfl⟩

theorem shut_parts {H : Type} {enc : TypeId × Value → H} {w : World} {base : Nat} {spare : Nat → Bool} {held : Bool} (n : Bool) {f e : Int} (wf : (Lit.int .u64 f).wf = true) (we : (Lit.int .i64 e).wf = true) :
    DataW.Trod enc Tryd.prog w base spare held 65 (.agg #[.bool n, .int .u64 f, .int .i64 e]) (.agg [.lit (.bool n), .lit (.int .u64 f), .lit (.int .i64 e)]) [] :=
  shut_agg3 (y0 := (.lit (.bool n), [])) (y1 := (.lit (.int .u64 f), [])) (y2 := (.lit (.int .i64 e), [])) Tryd.underlying65 (by kernel_rfl) cParts ⟨1, by simp [DataW.trod, Tryd.underlying4]⟩ ⟨1, by simp [DataW.trod, Tryd.underlying46, wf]⟩ ⟨1, by simp [DataW.trod, Tryd.underlying3, we]⟩
end Go.Proofs.YtokfkooffbihcaaDoor

namespace Go.Proofs.YtokfkooffbihcaaDoor
open Go.ChangeShapes Go.WideShapes Go.ChangeAt Go.RowKit Go.Joins

theorem cDyad : Tryd.prog.cellsOf 24 = 3 := by kernel_rfl
theorem cell_spot {w : World} {a : Addr} {v : Value} (h : w.cell? a = some v) : a = ⟨a.block, a.off, none⟩ := by
  obtain ⟨b, o, s⟩ := a
  cases s with
  | none => rfl
  | some k =>
    unfold World.cell? at h
    split at h
    · simp at h
    · cases h

theorem open_dyad {H : Type} {enc : TypeId × Value → H} {w : World} {base : Nat} {spare : Nat → Bool} {held : Bool} {r : Reach} {b0 : Nat} {v : Value} {d : DataW H} {p : List MemPlace}
    (hv : Value.okWide Tryd.prog w r b0 24 v) (h : DataW.Trod enc Tryd.prog w base spare held 24 v d p) :
    ∃ (D : Dy) (ao : Option Addr) (cap : Nat), v = .agg #[.bool D.neg, .slice ao D.mag.length cap, .int .i64 D.exp] ∧ LRow w ao D.mag ∧ Lm D.mag ∧ (ao = none → cap = 0 ∧ D.mag.length = 0) ∧
      ((d.weights Tryd.prog 24).all (· ≤ reachBytes) = true → D.mag.length ≤ 17592186044416) := by
  obtain ⟨v0, v1, v2, y0, y1, y2, k, rfl, rfl, rfl, h0, h1, h2⟩ := open_agg3 Tryd.underlying24 (by kernel_rfl) cDyad hv h
  obtain ⟨n, e0, rfl⟩ := DataW.trod_bool Tryd.underlying4 h0
  obtain ⟨e, e2, rfl, we⟩ := DataW.trod_int Tryd.underlying3 h2
  simp at e0 e2
  subst e0 e2
  rcases open_ints Tryd.underlying22 Tryd.underlying46 (by kernel_rfl) h1 with ⟨e1, rfl⟩ | ⟨a, len, cap, zs, e1, _, hl, _, hz, rfl, hc, hw⟩
  · simp at e1
    subst e1
    exact ⟨⟨n, [], e⟩, none, 0, rfl, Or.inl rfl, fun x hx => by simp at hx, fun _ => ⟨rfl, rfl⟩, fun _ => by simp⟩
  · simp at e1
    subst e1
    have hzl : len ≤ zs.length := by rw [hz]; split <;> omega
    have hlen : ((zs.take len).map Int.toNat).length = len := by simp; omega
    refine ⟨⟨n, (zs.take len).map Int.toNat, e⟩, some a, cap, by rw [hlen], ?_, ?_, fun h => (by cases h), ?_⟩
    · rcases Nat.eq_zero_or_pos len with h0 | h0
      · exact Or.inl (hlen.trans h0)
      · have ha : a = ⟨a.block, a.off, none⟩ := by
          have h := cell_spot (hc 0 (by omega))
          simpa [Addr.add] using h
        refine Or.inr ⟨a.block, a.off, congrArg some ha, fun j hj => ?_⟩
        have hj' : j < len := by rw [← hlen]; exact hj
        have hadd : a.add j = ⟨a.block, a.off + j, none⟩ := by
          unfold Addr.add
          split
          · subst j; exact ha
          · rfl
        have hcj := hc j (by omega)
        rw [hadd] at hcj
        rw [hcj]
        have hzj : zs.getD j 0 ∈ zs := by rw [List.getD_eq_getElem?_getD, List.getElem?_eq_getElem (show j < zs.length by omega)]; exact List.getElem_mem _
        have hpos := (u64_bd (hw _ hzj)).1
        have hget : ((zs.take len).map Int.toNat).getD j 0 = (zs.getD j 0).toNat := by
          rw [List.getD_eq_getElem?_getD, List.getD_eq_getElem?_getD, List.getElem?_map, List.getElem?_take_of_lt hj', List.getElem?_eq_getElem (show j < zs.length by omega)]; rfl
        show some (Value.int .u64 (zs.getD j 0)) = some (Value.int .u64 ((((zs.take len).map Int.toNat).getD j 0 : Nat) : Int))
        rw [hget, Int.toNat_of_nonneg hpos]
    · intro x hx
      obtain ⟨y, hy, rfl⟩ := List.mem_map.1 hx
      have := u64_bd (hw y (List.mem_of_mem_take hy))
      omega
    · intro hh
      have hb : Tryd.prog.bytesOf 46 = 8 := by kernel_rfl
      simp [DataW.weights, DataW.weightsEach, Tryd.underlying24, Tryd.underlying22, lits, hb, reachBytes] at hh
      show ((zs.take len).map Int.toNat).length ≤ _
      have h8 := of_decide_eq_true hh.1
      rw [Nat.min_eq_left hzl] at h8
      rw [hlen]
      omega
end Go.Proofs.YtokfkooffbihcaaDoor

namespace Go.Proofs.YtokfkooffbihcaaDoor
open Go.ChangeShapes Go.WideShapes Go.ChangeAt Go.RowKit

set_option maxRecDepth 100000 in
theorem dyadBetween_lifted (os : Os) (started : os.Started) (H : Type) (enc : TypeId × Value → H) :
    ReturnsInHanded {} Tryd.checked os 4 .any (fun w args => (Rows.dyadBetweenSpec.pre enc Tryd.prog Tryd.f4 [] false w args ∧ laidMetH Tryd.prog laidTab w) ∧ sizedMet enc Tryd.prog Tryd.f4 (OpenSpec.ofChange Rows.dyadBetweenSpec) false w args)
      (Rows.dyadBetweenSpec.post enc Tryd.prog Tryd.f4 false true false false) := by
  refine returnsInHanded_of_change_and (C := Tryd.checked) (X := fun w _ => laidMetH Tryd.prog laidTab w) (fun _ _ _ hh h => h.of_heap hh) Tryd.own started (by kernel_rfl) Tryd.func4
    (ChangeSpec.witness_shaped (enc := enc) (C := Tryd.checked) (os := os) (X := fun w _ => laidMetH Tryd.prog laidTab w) false (World.doorLaid Tryd.prog 400 os) #[(.agg #[.bool false, .slice none 0 0, .int .i64 0])] 8 rfl (World.shaped_of_RefB (by kernel_rfl) (by kernel_rfl)) (by kernel_rfl) (by kernel_rfl) (by kernel_rfl) (door_met os _)) ?_
  intro W base args ds gs before hval0 hW hx1 hx2 hL hS
  have hval : ∀ (j : Nat) t v, Tryd.f4.params[j]? = some t → args[j]? = some v → Value.okWide Tryd.prog W .any base t v := hval0
  have hW' := hW
  obtain ⟨p, q, hA0, hV, rfl, hfz, hnd⟩ := hW
  have hA : DataW.TrodAll enc Tryd.prog W 0 (fun _ => true) true Tryd.f4.params.toList args.toList ds p := hA0
  rw [Tryd.params4] at hA hval
  have hlt := DataW.TrodAll.lt hA
  obtain ⟨v0, d0, rfl, rfl, h0⟩ := trodAll_one hA
  obtain ⟨rfl, rfl⟩ := trodVars_none hV
  obtain ⟨A, ao, ac, rfl, ra, la, sa, na⟩ := open_dyad (hval 0 24 v0 rfl rfl) h0
  clear hA0 hval0
  simp only [List.append_nil] at hW'
  have n0 := na (List.all_eq_true.2 fun n hn => List.all_eq_true.1 hx2 n (DataW.weights_mem_each (j := 0) (t := 24) (by kernel_rfl) rfl n hn))
  have e1 : Rows.dyadBetweenSpec.fn H ([d0] ++ []) = { results := [.lit (.bool true)], args := [d0] } := rfl
  refine (btw_law A ao ac W ra la sa n0 (tab_of_laid hL)).mono fun e W' ⟨he, hw⟩ => ?_
  subst he
  have hc : ∀ {v d p}, DataW.Trod enc Tryd.prog W 0 (fun _ => true) true 24 v d p → (∀ x ∈ p, x.block < W.heap.size) → DataW.Trod enc Tryd.prog W' 0 (fun b => decide (b < W.heap.size)) true 24 v d p := fun h hl => Below.trod (show laidOutB Tryd.prog = true by kernel_rfl) (by kernel_rfl) (of_decide_eq_true (by kernel_rfl)) h hw hl
  refine ⟨_, rfl, _, _, _, [], p, [], hW', ?_, ?_, ?_, hw.frame _, fun h => by cases h⟩
  · rw [e1]; exact trodAll_mk1 (shut_bool Tryd.underlying4 true)
  · rw [e1]; exact trodAll_mk1 (hc h0 fun x hx => hlt x hx)
  · rw [e1]; rfl

theorem dyadBetween_holds : Rows.DyadBetweenSaid :=
  OpenClaim.holds_of_wide 4 Tryd.f4 rfl rfl rfl rfl rfl rfl rfl ⟨rfl, rfl, rfl, rfl, rfl⟩ rfl rfl rfl rfl rfl (by kernel_rfl) Tryd.func4 (by kernel_rfl)
    (of_decide_eq_true (by kernel_rfl)) (by unfold Func.isWrapper; rw [if_neg (of_decide_eq_false (by kernel_rfl))]; exact ⟨rfl, rfl⟩)
    (fun os started H enc _ => dyadBetween_lifted os started H enc)

theorem dyadBetween_card_holds : Rows.DyadBetweenCardSaid :=
  Claim7.holds_tied_plain_at .later [] [.data] true Rows.dyadBetweenCard.stood.harness false
    dyadBetween_holds (fun _ h => by cases h) (by kernel_rfl) (fun _ h => by cases h) dyadBetween_row_tie rfl ⟨rfl, rfl⟩ (by kernel_rfl) rfl
    (fun f fn hf hfn => by
      obtain rfl : f = 4 := Option.some.inj ((show Tryd.prog.funcNamed "girder/girderlaw02.DyadBetween" = some 4 by kernel_rfl).symm.trans hf) |>.symm
      obtain rfl : fn = Tryd.f4 := (Option.some.inj (Tryd.func4.symm.trans hfn)).symm
      exact ⟨by kernel_rfl, fun j t ht => by
        rw [Tryd.params4] at ht
        have hm : t ∈ [24] := by simpa using Array.mem_of_getElem? ht
        have hall : ([24].all fun u => !Tryd.prog.wantsStandIn u) = true := by kernel_rfl
        exact (show Tryd.prog.wantsStandIn t = false by simpa using List.all_eq_true.1 hall t hm)⟩)
    (by kernel_rfl)
#print axioms dyadBetween_card_holds
end Go.Proofs.YtokfkooffbihcaaDoor
