/- A right dyad that is no float lies between two floats next to each other, and is rounded to these: no program in this text. -/
import Derived.Test.YtokfkooffbihcaaDoorKa
import Derived.Test.YtokfkooffbihcaaDoorEn
import Derived.Test.YtokfkooffbihcaaDoorFc
namespace Go.Proofs.YtokfkooffbihcaaDoor

/-- From a float's least place down to a dyad's. -/
def kU : Nat := 64462
theorem kU_eq : kU = 64462 := rfl
theorem rW_val {k : Nat} {la : Int} (hk : k < 9007199254740992) (hor : la = -1074 ∨ 4503599627370496 ≤ k) : val (rW k la) = k * 2 ^ (la + 1074).toNat ∧ val (rW k la + 1) = (k + 1) * 2 ^ (la + 1074).toNat := by
  have hU : (la + 1074).toNat = 0 ∨ 4503599627370496 ≤ k := by omega
  obtain ⟨e1, e2⟩ := mg_of hk hU
  unfold rW
  refine ⟨?_, ?_⟩
  · rw [← mg_up, e1, e2]
  · rw [val_succ, e1, e2]

/-- Where what is dropped is not nothing: the size below, the one above, the nearer one. -/
theorem rnd_near {v : Nat} {e : Int} (hv : v % 2 = 1) (he : -65536 ≤ e) (hg : (bl v : Int) + e ≤ 1024) (hd : 0 < rDr v e) :
    ∃ s B R D : Nat, rSz v e 3 = s ∧ rSz v e 2 = s + 1 ∧ (rSz v e 0 = s ∨ rSz v e 0 = s + 1) ∧ s < 9218868437227405312 ∧ v = B + R ∧ 0 < R ∧ R < D ∧
      val s * 2 ^ kU = B * 2 ^ (e + 65536).toNat ∧ val (s + 1) * 2 ^ kU = (B + D) * 2 ^ (e + 65536).toNat ∧ (2 * R < D → rSz v e 0 = s) ∧ (D < 2 * R → rSz v e 0 = s + 1) := by
  have h0 : v ≠ 0 := by omega
  obtain ⟨k1, k2, k3, k4, k5⟩ := kept_bd h0 hg
  generalize hla : rLa v e = la at *
  have hdr : rDr v e = la - e := by unfold rDr; rw [hla]
  generalize hdn : (rDr v e).toNat = n at *
  have hn : 0 < n := by omega
  have hsh : shr v (rDr v e) = v / 2 ^ n := by unfold shr; rw [if_pos (by omega), hdn]
  rw [hsh] at k1 k2 k5
  have hD : 0 < 2 ^ n := Nat.pow_pos (by omega)
  have hDM := Nat.div_add_mod v (2 ^ n)
  have hlt := Nat.mod_lt v hD
  have h2 : 2 ^ n = 2 * 2 ^ (n - 1) := by
    have h3 : n = n - 1 + 1 := by omega
    rw [h3, Nat.pow_succ, Nat.mul_comm, Nat.add_sub_cancel]
  have hodd : v % 2 ^ n % 2 = 1 := by
    rw [h2, Nat.mod_mul_right_mod]; exact hv
  have hR : v % 2 ^ n ≠ 0 := by intro h; rw [h] at hodd; cases hodd
  have hbit : win v (rDr v e - 1) % 2 = v / 2 ^ (n - 1) % 2 := by
    unfold win shr
    rw [if_pos (by omega), show (rDr v e - 1).toNat = n - 1 by omega]
    omega
  have hq : v / 2 ^ (n - 1) % 2 = (v % 2 ^ n) / 2 ^ (n - 1) := by
    rw [h2, Nat.mul_comm 2, Nat.mod_mul_right_div_self]
  have hp1 : 0 < 2 ^ (n - 1) := Nat.pow_pos (by omega)
  have hw : win v (rDr v e) = v / 2 ^ n := k1
  have e3 : rSz v e 3 = rW (v / 2 ^ n) la := by
    unfold rSz; rw [if_neg (by omega), hla]; unfold rKp rUp; rw [hw]; simp
  have e2 : rSz v e 2 = rW (v / 2 ^ n) la + 1 := by
    unfold rSz; rw [if_neg (by omega), hla]; unfold rKp rUp; rw [hw, if_pos ⟨hd, by simp⟩]; unfold rW; omega
  have e0 : ∀ b, rUp v (rDr v e) 0 = b → rSz v e 0 = if b then rW (v / 2 ^ n) la + 1 else rW (v / 2 ^ n) la := by
    intro b hb
    unfold rSz; rw [if_neg (by omega), hla]; unfold rKp; rw [hw, hb]
    cases b
    · simp
    · rw [if_pos ⟨hd, rfl⟩, if_pos rfl]; unfold rW; omega
  have hup : rUp v (rDr v e) 0 = ((v % 2 ^ n / 2 ^ (n - 1) == 1) && (decide (1 < rDr v e) || (win v (rDr v e) % 2 == 1))) := by
    unfold rUp; rw [if_pos rfl, hbit, hq]
  have hpow : 2 ^ (la + 1074).toNat * 2 ^ kU = 2 ^ n * 2 ^ (e + 65536).toNat := by
    rw [← Nat.pow_add, ← Nat.pow_add]; congr 1; have := kU_eq; omega
  obtain ⟨v1, v2⟩ := rW_val k2 k5
  refine ⟨rW (v / 2 ^ n) la, 2 ^ n * (v / 2 ^ n), v % 2 ^ n, 2 ^ n, e3, e2, ?_, ?_, by omega, by omega, hlt, ?_, ?_, ?_, ?_⟩
  · have h := e0 _ rfl
    cases hb : rUp v (rDr v e) 0 <;> rw [hb] at h
    · exact Or.inl h
    · exact Or.inr h
  · unfold rW; omega
  · rw [v1, Nat.mul_assoc, hpow, ← Nat.mul_assoc, Nat.mul_comm (v / 2 ^ n)]
  · rw [v2, Nat.mul_assoc, hpow, ← Nat.mul_assoc, Nat.add_mul, Nat.one_mul, Nat.mul_comm (v / 2 ^ n)]
  · intro h
    have hz : v % 2 ^ n / 2 ^ (n - 1) = 0 := Nat.div_eq_of_lt (by omega)
    rw [hz] at hup
    exact e0 false hup
  · intro h
    have h3 : v % 2 ^ n / 2 ^ (n - 1) = 1 := by
      have h4 := Nat.div_mul_le_self (v % 2 ^ n) (2 ^ (n - 1))
      have h5 : v % 2 ^ n / 2 ^ (n - 1) < 2 := (Nat.div_lt_iff_lt_mul hp1).2 (by omega)
      have h6 : 1 ≤ v % 2 ^ n / 2 ^ (n - 1) := (Nat.le_div_iff_mul_le hp1).2 (by omega)
      omega
    have h1 : 1 < rDr v e := by
      by_cases h1 : n = 1
      · subst h1; simp at h hlt; omega
      · omega
    rw [h3, decide_eq_true h1] at hup
    exact e0 true hup

theorem vl_low {xs : List Nat} (hl : Lm xs) (hn : xs.length ≠ 0) (hlast : xs.getD (xs.length - 1) 0 ≠ 0) (hv : vl xs < 18446744073709551616) : xs = [vl xs] := by
  match xs, hn with
  | [x], _ => simp [vl]
  | x :: y :: ys, _ =>
    exfalso
    have h1 : vl (x :: y :: ys) = x + 18446744073709551616 * vl (y :: ys) := rfl
    have h2 : vl (y :: ys) ≠ 0 := vl_ne_last (by simp) (by simpa using hlast)
    omega
/-- A right dyad that keeps all its bits is a float's. -/
theorem fit_of {d : Dy} (hl : Lm d.mag) (hr : rightB d = true) (hn : d.mag.length ≠ 0) (hg : (bl (vl d.mag) : Int) + d.exp ≤ 1024) (hd : rDr (vl d.mag) d.exp ≤ 0) : fitB d = true := by
  rcases right_cases hr with rfl | ⟨_, hc⟩
  · exact absurd rfl hn
  have hodd : vl d.mag % 2 = 1 := by rw [vl_odd hl hn]; exact hc.2.1
  have h0 : vl d.mag ≠ 0 := by omega
  have hb := bl_spec h0
  have hb53 : bl (vl d.mag) ≤ 53 := by unfold rDr rLa at hd; omega
  have he : -1074 ≤ d.exp := by unfold rDr rLa at hd; omega
  have hlt : vl d.mag < 9007199254740992 := by have := bl_le_iff.1 hb53; omega
  have hm := vl_low hl hn hc.2.2.1 (by omega)
  have hlen : d.mag.length = 1 := by rw [hm]; rfl
  have hlmb : lmb d.mag 0 = vl d.mag := by rw [hm]; simp [lmb, vl]
  obtain ⟨j1, _, _, _⟩ := val_jR h0 hlt he
  have hj : jR (vl d.mag) d.exp < 9218868437227405312 := by
    apply (val_lt_iff _ _).1
    obtain ⟨X, hX, hv⟩ : ∃ X, X = 2046 ∧ val 9218868437227405312 = 4503599627370496 * 2 ^ X := by
      have h1 : mg 9218868437227405312 = 4503599627370496 := by decide
      exact ⟨up 9218868437227405312, by decide, by rw [← mg_up, h1]⟩
    rw [j1, hv]
    calc vl d.mag * 2 ^ (d.exp + 1074).toNat < 2 ^ bl (vl d.mag) * 2 ^ (d.exp + 1074).toNat := (Nat.mul_lt_mul_right (Nat.pow_pos (by omega))).2 hb.2.1
      _ = 2 ^ (bl (vl d.mag) + (d.exp + 1074).toNat) := by rw [Nat.pow_add]
      _ ≤ 2 ^ (52 + X) := Nat.pow_le_pow_right (by omega) (by omega)
      _ = 4503599627370496 * 2 ^ X := by rw [Nat.pow_add]
  unfold fitB okP
  rw [hr, hlmb, if_neg h0, decide_eq_true (by omega), decide_eq_true ⟨hodd, hlt, he, by omega, hj⟩]
  rfl
/-- Whose dyad a right dyad is that fits. -/
theorem fit_float {d : Dy} (hf : fitB d = true) (hn : d.mag.length ≠ 0) : ∃ a, a < 18446744073709551616 ∧ finB a = true ∧ rung a ≠ 0 ∧ d = ⟨sgn a, [spF a], spE a⟩ := by
  unfold fitB at hf
  simp only [Bool.and_eq_true, decide_eq_true_eq] at hf
  obtain ⟨⟨hr, hle⟩, hk⟩ := hf
  obtain ⟨neg, mag, ex⟩ := d
  simp only at *
  have hlen : mag.length = 1 := by omega
  obtain ⟨x, rfl⟩ : ∃ x, mag = [x] := List.length_eq_one_iff.1 hlen
  have hx : lmb [x] 0 = x := rfl
  rw [hx] at hk
  obtain ⟨j1, j2, j3, j4⟩ := split_join (n := neg) hk
  have h0 : x ≠ 0 := by
    rcases right_cases hr with h | ⟨_, hc⟩
    · cases h
    · simp at hc; omega
  have hv : valR x ex < 9218868437227405312 := valR_lt x ex
  have hlt : joinF neg x ex < 18446744073709551616 := by
    unfold joinF
    (repeat' split) <;> omega
  refine ⟨joinF neg x ex, hlt, j1, ?_, by rw [j2, j3, j4]⟩
  intro hz
  have : spF (joinF neg x ex) = 0 := by unfold spF; rw [if_pos hz]
  omega
/-- A finite float's dyad: its number. -/
theorem of_qd {a : Nat} (hf : finB a = true) : (ofD a).2 = 0 ∧ rightB (ofD a).1 = true ∧ Lm (ofD a).1.mag ∧ (ofD a).1.mag.length ≤ 256 ∧ qd (ofD a).1 = (if sgn a then -((val (rung a) * 2 ^ kU : Nat) : Int) else ((val (rung a) * 2 ^ kU : Nat) : Int)) := by
  by_cases h0 : rung a = 0
  · rw [of_nought hf h0, h0]
    refine ⟨rfl, rfl, fun x hx => by simp [dy0] at hx, by simp [dy0], ?_⟩
    rw [val_zero, Nat.zero_mul]
    have : qd dy0 = 0 := by unfold qd; rw [show sv dy0 = 0 from rfl, Int.zero_mul]
    rw [show ((dy0, (0 : Int)).1) = dy0 from rfl, this]
    cases sgn a <;> rfl
  · rw [of_some hf h0]
    obtain ⟨p1, p2, p3⟩ := sp_parts h0
    obtain ⟨b1, b2, b3, b4, b5, b6⟩ := sp_bd hf h0
    refine ⟨rfl, of_right hf h0, lm1 (by omega), by simp, ?_⟩
    have hs : (spF a * 2 ^ (spE a + 65536).toNat : Nat) = val (rung a) * 2 ^ kU := by
      rw [← mg_up, ← p1, Nat.mul_assoc, Nat.mul_assoc, ← Nat.pow_add, ← Nat.pow_add]
      congr 2
      have := kU_eq
      omega
    unfold qd sv
    simp only [show vl [spF a] = spF a by simp [vl]]
    rw [← hs]
    cases sgn a
    · simp
    · simp [Int.neg_mul]
end Go.Proofs.YtokfkooffbihcaaDoor
