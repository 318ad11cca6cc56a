/- A dyad that is no float lies between two floats next to each other, and is rounded to these (out of wip/dyad/La, under names of its own): no program in this text. -/
import Derived.Test.YtmcnnnmlacpppaaDoorDr
import Derived.Test.YtmcnnnmlacpppaaDoorFy
namespace Go.Proofs.YtmcnnnmlacpppaaDoor
open Go.RowKit

/-- From a float's least place down to a dyad's. -/
def kQ : Nat := 64462
theorem kQ_eq : kQ = 64462 := rfl
theorem rW_valQ {k : Nat} {la : Int} (hk : k < 9007199254740992) (hor : la = -1074 ∨ 4503599627370496 ≤ k) : val (rW k la) = k * 2 ^ (la + 1074).toNat ∧ val (rW k la + 1) = (k + 1) * 2 ^ (la + 1074).toNat := by
  have hU : (la + 1074).toNat = 0 ∨ 4503599627370496 ≤ k := by omega
  obtain ⟨e1, e2⟩ := mg_of hk hU
  unfold rW
  refine ⟨?_, ?_⟩
  · rw [← mg_up, e1, e2]
  · rw [val_succ, e1, e2]

/-- Where what is dropped is not nothing: the size below, the one above, the nearer one. -/
theorem rnd_nearQ {v : Nat} {e : Int} (hv : v % 2 = 1) (he : -65536 ≤ e) (hg : (bl v : Int) + e ≤ 1024) (hd : 0 < rDr v e) :
    ∃ s B R D : Nat, rSz v e 3 = s ∧ rSz v e 2 = s + 1 ∧ (rSz v e 0 = s ∨ rSz v e 0 = s + 1) ∧ s < 9218868437227405312 ∧ v = B + R ∧ 0 < R ∧ R < D ∧
      val s * 2 ^ kQ = B * 2 ^ (e + 65536).toNat ∧ val (s + 1) * 2 ^ kQ = (B + D) * 2 ^ (e + 65536).toNat ∧ (2 * R < D → rSz v e 0 = s) ∧ (D < 2 * R → rSz v e 0 = s + 1) := by
  have h0 : v ≠ 0 := by omega
  obtain ⟨k1, k2, k3, k4, k5⟩ := kept_bd h0 hg
  generalize hla : rLa v e = la at *
  have hdr : rDr v e = la - e := by unfold rDr; rw [hla]
  generalize hdn : (rDr v e).toNat = n at *
  have hn : 0 < n := by omega
  have hsh : shr v (rDr v e) = v / 2 ^ n := by unfold shr; rw [if_pos (by omega), hdn]
  rw [hsh] at k1 k2 k5
  have hD : 0 < 2 ^ n := Nat.pow_pos (by omega)
  have hDM := Nat.div_add_mod v (2 ^ n)
  have hlt := Nat.mod_lt v hD
  have h2 : 2 ^ n = 2 * 2 ^ (n - 1) := by
    have h3 : n = n - 1 + 1 := by omega
    rw [h3, Nat.pow_succ, Nat.mul_comm, Nat.add_sub_cancel]
  have hodd : v % 2 ^ n % 2 = 1 := by
    rw [h2, Nat.mod_mul_right_mod]; exact hv
  have hR : v % 2 ^ n ≠ 0 := by intro h; rw [h] at hodd; cases hodd
  have hbit : win v (rDr v e - 1) % 2 = v / 2 ^ (n - 1) % 2 := by
    unfold win shr
    rw [if_pos (by omega), show (rDr v e - 1).toNat = n - 1 by omega]
    omega
  have hq : v / 2 ^ (n - 1) % 2 = (v % 2 ^ n) / 2 ^ (n - 1) := by
    rw [h2, Nat.mul_comm 2, Nat.mod_mul_right_div_self]
  have hp1 : 0 < 2 ^ (n - 1) := Nat.pow_pos (by omega)
  have hw : win v (rDr v e) = v / 2 ^ n := k1
  have e3 : rSz v e 3 = rW (v / 2 ^ n) la := by
    unfold rSz; rw [if_neg (by omega), hla]; unfold rKp rUp; rw [hw]; simp
  have e2 : rSz v e 2 = rW (v / 2 ^ n) la + 1 := by
    unfold rSz; rw [if_neg (by omega), hla]; unfold rKp rUp; rw [hw, if_pos ⟨hd, by simp⟩]; unfold rW; omega
  have e0 : ∀ b, rUp v (rDr v e) 0 = b → rSz v e 0 = if b then rW (v / 2 ^ n) la + 1 else rW (v / 2 ^ n) la := by
    intro b hb
    unfold rSz; rw [if_neg (by omega), hla]; unfold rKp; rw [hw, hb]
    cases b
    · simp
    · rw [if_pos ⟨hd, rfl⟩, if_pos rfl]; unfold rW; omega
  have hup : rUp v (rDr v e) 0 = ((v % 2 ^ n / 2 ^ (n - 1) == 1) && (decide (1 < rDr v e) || (win v (rDr v e) % 2 == 1))) := by
    unfold rUp; rw [if_pos rfl, hbit, hq]
  have hpow : 2 ^ (la + 1074).toNat * 2 ^ kQ = 2 ^ n * 2 ^ (e + 65536).toNat := by
    rw [← Nat.pow_add, ← Nat.pow_add]; congr 1; have := kQ_eq; omega
  obtain ⟨v1, v2⟩ := rW_valQ k2 k5
  refine ⟨rW (v / 2 ^ n) la, 2 ^ n * (v / 2 ^ n), v % 2 ^ n, 2 ^ n, e3, e2, ?_, ?_, by omega, by omega, hlt, ?_, ?_, ?_, ?_⟩
  · have h := e0 _ rfl
    cases hb : rUp v (rDr v e) 0 <;> rw [hb] at h
    · exact Or.inl h
    · exact Or.inr h
  · unfold rW; omega
  · rw [v1, Nat.mul_assoc, hpow, ← Nat.mul_assoc, Nat.mul_comm (v / 2 ^ n)]
  · rw [v2, Nat.mul_assoc, hpow, ← Nat.mul_assoc, Nat.add_mul, Nat.one_mul, Nat.mul_comm (v / 2 ^ n)]
  · intro h
    have hz : v % 2 ^ n / 2 ^ (n - 1) = 0 := Nat.div_eq_of_lt (by omega)
    rw [hz] at hup
    exact e0 false hup
  · intro h
    have h3 : v % 2 ^ n / 2 ^ (n - 1) = 1 := by
      have h4 := Nat.div_mul_le_self (v % 2 ^ n) (2 ^ (n - 1))
      have h5 : v % 2 ^ n / 2 ^ (n - 1) < 2 := (Nat.div_lt_iff_lt_mul hp1).2 (by omega)
      have h6 : 1 ≤ v % 2 ^ n / 2 ^ (n - 1) := (Nat.le_div_iff_mul_le hp1).2 (by omega)
      omega
    have h1 : 1 < rDr v e := by
      by_cases h1 : n = 1
      · subst h1; simp at h hlt; omega
      · omega
    rw [h3, decide_eq_true h1] at hup
    exact e0 true hup

end Go.Proofs.YtmcnnnmlacpppaaDoor
