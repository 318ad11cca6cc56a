/- An exact number that is not 0 lies between what is told of it downwards and upwards: sums, products, fused ones, quotients, roots: plain, no program in this text. -/
import Derived.Test.YtfhejejfeffdcaaDoorJr
import Derived.Test.YtfhejejfeffdcaaDoorU11
namespace Go.Proofs.YtfhejejfeffdcaaDoor
open Go.RowKit

/-- The rung k, or the one next to it, by the way; r: on which side of k the exact size lies. -/
def rgS (k : Nat) (r m : Int) : Nat := if (m = 1 ∨ m = 3) ∧ r < 0 then k - 1 else if m = 2 ∧ 0 < r then k + 1 else k
/-- The size A lies at G k, or between that and the next one on r's side. -/
def Brk (A : Nat) (G : Nat → Nat) (k : Nat) (r : Int) : Prop :=
  k ≤ 9218868437227405312 ∧ (r = 0 → k < 9218868437227405312 ∧ G k = A) ∧ (0 < r → k < 9218868437227405312 ∧ G k < A ∧ (k + 1 < 9218868437227405312 → A < G (k + 1))) ∧ (r < 0 → 0 < k ∧ G (k - 1) < A ∧ (k < 9218868437227405312 → A < G k))
theorem step_word (s : Bool) {k : Nat} {r : Int} {A : Nat} {G : Nat → Nat} (h : Brk A G k r) (m : Int) : stepF (Ieee.double.word s k) (if s then -r else r) m = Ieee.double.word s (rgS k r (if s then tmd m else m)) := by
  obtain ⟨hk, h0, h1, h2⟩ := h
  have g1 : k = 0 → ¬ r < 0 := fun e c => by have := (h2 c).1; omega
  have g2 : k = 9218868437227405312 → ¬ 0 < r := fun e c => by have := (h1 c).1; omega
  cases s
  · simp only [Bool.false_eq_true, if_false]
    rw [word_k _ (by omega)]
    simp only [Bool.false_eq_true, if_false]
    rw [stepF_plus m hk g1 g2, word_k _ (by unfold rgS; split; omega; split <;> omega)]
    rfl
  · simp only [if_true]
    rw [word_k _ (by omega), word_k _ (by unfold rgS; split; omega; split <;> omega)]
    simp only [if_true]
    rw [stepF_less m hk (fun e => by have := g1 e; omega) (fun e => by have := g2 e; omega)]
    congr 1
    unfold rgS
    have e1 : (tmd m = 1 ∨ tmd m = 3) ↔ (m = 2 ∨ m = 3) := by unfold tmd; (repeat' split) <;> omega
    have e2 : tmd m = 2 ↔ m = 1 := by unfold tmd; (repeat' split) <;> omega
    have E1 : ((m = 2 ∨ m = 3) ∧ 0 < -r) ↔ ((tmd m = 1 ∨ tmd m = 3) ∧ r < 0) := by rw [e1]; omega
    have E2 : (m = 1 ∧ -r < 0) ↔ (tmd m = 2 ∧ 0 < r) := by rw [e2]; omega
    simp only [E1, E2]
/-- What is told of an exact number other than 0, by each way. -/
def Told (s : Bool) (A : Nat) (G : Nat → Nat) (f : Int → Nat) : Prop := ∃ k r, Brk A G k r ∧ ∀ m, f m = Ieee.double.word s (rgS k r (if s then tmd m else m))
theorem sgI_zero {x : Int} : sgI x = 0 ↔ x = 0 := by unfold sgI; (repeat' split) <;> omega
theorem sgI_lt {x : Int} : (sgI x < 0 ↔ x < 0) ∧ (0 < sgI x ↔ 0 < x) := by unfold sgI; (repeat' split) <;> omega
theorem near_brk {A k : Nat} (hN : NearK A k) (hA : 0 < A) : Brk A (fun q => val q * 2 ^ kV) k (sdN A k) := by
  have hK := Nat.two_pow_pos kV
  have hk := hN.1
  refine ⟨hk, fun h => ?_, fun h => ?_, fun h => ?_⟩
  · unfold sdN at h
    split at h
    · omega
    · rename_i hi
      refine ⟨by omega, ?_⟩
      have := sgI_zero.1 h
      show val k * 2 ^ kV = A
      omega
  · have hi : k < 9218868437227405312 := by
      rcases Nat.lt_or_ge k 9218868437227405312 with c | c
      · exact c
      · unfold sdN at h; rw [if_pos (by omega)] at h; omega
    have h1 := (sdN_lt hi).2.1 h
    refine ⟨hi, h1, fun _ => ?_⟩
    have h2 := near_up hN hi
    have h3 : val k * 2 ^ kV < val (k + 1) * 2 ^ kV := Nat.mul_lt_mul_of_pos_right (val_step k) hK
    rw [Nat.add_mul] at h2
    show A < val (k + 1) * 2 ^ kV
    omega
  · have k0 : 0 < k := by
      rcases Nat.eq_zero_or_pos k with c | c
      · subst c
        have := (sdN_lt (by omega)).1.1 h
        rw [val_zero, Nat.zero_mul] at this
        omega
      · exact c
    refine ⟨k0, ?_, fun hi => (sdN_lt hi).1.1 h⟩
    have h2 := near_low hN (show k - 1 < k by omega)
    have h3 : val (k - 1) * 2 ^ kV < val k * 2 ^ kV := Nat.mul_lt_mul_of_pos_right (val_lt (by omega)) hK
    rw [Nat.add_mul] at h2
    show val (k - 1) * 2 ^ kV < A
    omega
theorem Brk.scale {A : Nat} {G H : Nat → Nat} {k : Nat} {r : Int} {P B : Nat} (h : Brk A G k r) (hP : 0 < P) (eA : A = B * P) (eG : ∀ q, G q = H q * P) : Brk B H k r := by
  obtain ⟨h0, h1, h2, h3⟩ := h
  subst eA
  refine ⟨h0, fun c => ?_, fun c => ?_, fun c => ?_⟩
  · obtain ⟨a, b⟩ := h1 c
    rw [eG] at b
    exact ⟨a, Nat.eq_of_mul_eq_mul_right hP b⟩
  · obtain ⟨a, b, d⟩ := h2 c
    rw [eG] at b
    refine ⟨a, Nat.lt_of_mul_lt_mul_right b, fun e => ?_⟩
    have := d e
    rw [eG] at this
    exact Nat.lt_of_mul_lt_mul_right this
  · obtain ⟨a, b, d⟩ := h3 c
    rw [eG] at b
    refine ⟨a, Nat.lt_of_mul_lt_mul_right b, fun e => ?_⟩
    have := d e
    rw [eG] at this
    exact Nat.lt_of_mul_lt_mul_right this
theorem fu_told {X : Int} (h0 : X ≠ 0) : Told (decide (X < 0)) X.natAbs (fun q => val q * 2 ^ twP) (fuV X) := by
  have hN := fuK_near h0
  have hA := fu_units h0
  have hB := near_brk hN hA
  refine ⟨fuK X, sdN (X.natAbs * 2 ^ puH) (fuK X), hB.scale (Nat.two_pow_pos puH) rfl (fun q => ?_), fun m => ?_⟩
  · rw [Nat.mul_assoc, ← Nat.pow_add, show twP + puH = kV from rfl]
  · rw [← step_word _ hB m]
    unfold fuV
    congr 1
    unfold sdK sdN
    by_cases c : X < 0 <;> simp only [c, decide_true, decide_false, if_true, Bool.false_eq_true, if_false] <;> split <;> rfl
/-- A number with one digit more that says whether anything is left, against what lies on twice its units, or far below. -/
theorem sticky_low {T u Q s : Nat} (_hu : 0 < u) (hT : 2 * u ∣ T ∨ T < 9007199254740992 * u) (hQ : 9007199254740992 ≤ Q) (hs : s ≤ 1) (h : T < (2 * Q + s) * u) : T ≤ 2 * Q * u ∧ (s = 0 → T < 2 * Q * u) := by
  refine ⟨?_, fun e => by subst e; exact h⟩
  rcases hT with ⟨t, rfl⟩ | hT
  · have e : 2 * u * t = 2 * t * u := by ac_rfl
    rw [e] at h ⊢
    have := Nat.lt_of_mul_lt_mul_right h
    exact Nat.mul_le_mul_right _ (by omega)
  · refine Nat.le_trans (Nat.le_of_lt hT) (Nat.mul_le_mul_right _ (by omega))
theorem sticky_up {T u Q s : Nat} (_hu : 0 < u) (hT : 2 * u ∣ T ∨ T < 9007199254740992 * u) (hQ : 9007199254740992 ≤ Q) (hs : s ≤ 1) (h : (2 * Q + s) * u < T) : (2 * Q + 2 * s) * u ≤ T ∧ (s = 0 → 2 * Q * u < T) := by
  refine ⟨?_, fun e => by subst e; exact h⟩
  rcases hT with ⟨t, rfl⟩ | hT
  · have e : 2 * u * t = 2 * t * u := by ac_rfl
    rw [e] at h ⊢
    have := Nat.lt_of_mul_lt_mul_right h
    exact Nat.mul_le_mul_right _ (by omega)
  · exfalso
    have : 9007199254740992 * u ≤ (2 * Q + s) * u := Nat.mul_le_mul_right _ (by omega)
    omega
theorem val_units (q K C : Nat) : 2 * 2 ^ C ∣ val q * 2 ^ K ∨ val q * 2 ^ K < 9007199254740992 * 2 ^ C := by
  rw [← mg_up, Nat.mul_assoc, ← Nat.pow_add]
  rcases Nat.lt_or_ge C (up q + K) with c | c
  · left
    rw [Nat.mul_comm 2, ← Nat.pow_succ]
    exact Nat.dvd_trans (Nat.pow_dvd_pow 2 c) (Nat.dvd_mul_left _ _)
  · right
    have a1 : mg q * 2 ^ (up q + K) ≤ mg q * 2 ^ C := Nat.mul_le_mul_left _ (pw_le c)
    have a2 : mg q * 2 ^ C < 9007199254740992 * 2 ^ C := Nat.mul_lt_mul_of_pos_right (mg_lt q) (Nat.two_pow_pos C)
    omega
/-- What is nearest lies next to the number with its last digit. -/
theorem near_sides {K W k : Nat} (c : ∀ r, r < 9218868437227405312 → (r < k ↔ aboveD K W r)) (hk : k ≤ 9218868437227405312) : (0 < k → val (k - 1) * 2 ^ K < W) ∧ (k < 9218868437227405312 → W < val (k + 1) * 2 ^ K) := by
  have hK := Nat.two_pow_pos K
  refine ⟨fun h => ?_, fun h => ?_⟩
  · have h1 := (c (k - 1) (by omega)).1 (by omega)
    have h3 : val (k - 1) * 2 ^ K < val (k - 1 + 1) * 2 ^ K := Nat.mul_lt_mul_of_pos_right (val_step _) hK
    unfold aboveD at h1
    rw [Nat.add_mul] at h1
    omega
  · have h1 : ¬ aboveD K W k := fun a => Nat.lt_irrefl k ((c k h).2 a)
    have h3 : val k * 2 ^ K < val (k + 1) * 2 ^ K := Nat.mul_lt_mul_of_pos_right (val_step k) hK
    unfold aboveD at h1
    rw [Nat.add_mul] at h1
    omega
end Go.Proofs.YtfhejejfeffdcaaDoor
