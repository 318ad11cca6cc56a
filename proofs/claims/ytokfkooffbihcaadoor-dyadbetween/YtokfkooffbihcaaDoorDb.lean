/- Dyads as plain data: right ones, the right one of a value, its units of 2^-65536; no program in this text. -/
import Derived.Test.YtokfkooffbihcaaDoorDa
namespace Go.Proofs.YtokfkooffbihcaaDoor

structure Dy where
  neg : Bool
  mag : List Nat
  exp : Int
/-- Are two dyads the same? -/
def eqB (a b : Dy) : Bool := decide (a.neg = b.neg ∧ a.mag = b.mag ∧ a.exp = b.exp)
theorem eqB_iff {a b : Dy} : eqB a b = true ↔ a = b := by
  obtain ⟨n1, m1, e1⟩ := a
  obtain ⟨n2, m2, e2⟩ := b
  unfold eqB
  simp
theorem eqB_self (a : Dy) : eqB a a = true := eqB_iff.2 rfl

def dy0 : Dy := ⟨false, [], 0⟩
def rightB (d : Dy) : Bool := if d.mag.length = 0 then !d.neg && decide (d.exp = 0) else decide (d.mag.length ≤ 256 ∧ d.mag.getD 0 0 % 2 = 1 ∧ d.mag.getD (d.mag.length - 1) 0 ≠ 0 ∧ -65536 ≤ d.exp ∧ d.exp ≤ 65536)
/-- The whole number of a dyad, with its sign. -/
def sv (d : Dy) : Int := if d.neg then -(vl d.mag : Int) else vl d.mag
/-- The right dyad of m times 2^e, if it is not too long. -/
def nrm (m e : Int) : Dy × Int :=
  if m = 0 then (dy0, 0)
  else if 16384 < bl m.natAbs - tz m.natAbs ∨ e + tz m.natAbs < -65536 ∨ 65536 < e + tz m.natAbs then (dy0, 3)
  else (⟨decide (m < 0), lo (m.natAbs / 2 ^ tz m.natAbs), e + tz m.natAbs⟩, 0)
/-- A right dyad in units of 2^-65536. -/
def qd (d : Dy) : Int := sv d * 2 ^ (d.exp + 65536).toNat

theorem nrm_lm (m e : Int) : Lm (nrm m e).1.mag := by
  unfold nrm
  split
  · intro x hx; simp [dy0] at hx
  · split
    · intro x hx; simp [dy0] at hx
    · exact lo_lm _
theorem nrm_shift (m e : Int) (k : Nat) : nrm (m * 2 ^ k) (e - k) = nrm m e := by
  by_cases h : m = 0
  · subst h; rw [Int.zero_mul]; unfold nrm; rw [if_pos rfl, if_pos rfl]
  · have hp : (0 : Int) < 2 ^ k := Int.pow_pos (by omega)
    have h' : m * 2 ^ k ≠ 0 := Int.mul_ne_zero h (by omega)
    have ea : (m * 2 ^ k).natAbs = m.natAbs * 2 ^ k := by rw [Int.natAbs_mul, Int.natAbs_pow]; rfl
    have h0 : m.natAbs ≠ 0 := by omega
    have e1 := bl_mul_pow (v := m.natAbs) (k := k) h0
    have e2 := tz_mul_pow (v := m.natAbs) (k := k) h0
    have e3 : m.natAbs * 2 ^ k / 2 ^ (tz m.natAbs + k) = m.natAbs / 2 ^ tz m.natAbs := by
      rw [Nat.pow_add, Nat.mul_comm (2 ^ tz m.natAbs), ← Nat.div_div_eq_div_mul, Nat.mul_div_cancel _ (Nat.two_pow_pos k)]
    have e4 : decide (m * 2 ^ k < 0) = decide (m < 0) := by
      by_cases hm : m < 0
      · simp only [hm, Int.mul_neg_of_neg_of_pos hm hp]
      · have := Int.mul_nonneg (show 0 ≤ m by omega) (Int.le_of_lt hp)
        simp only [hm, show ¬ m * 2 ^ k < 0 by omega]
    unfold nrm
    rw [if_neg h, if_neg h', ea, e1, e2, e3, e4, show e - (k : Int) + ((tz m.natAbs + k : Nat) : Int) = e + tz m.natAbs by omega, show bl m.natAbs + k - (tz m.natAbs + k) = bl m.natAbs - tz m.natAbs by omega]

theorem vl_odd {xs : List Nat} (h : Lm xs) (hn : xs.length ≠ 0) : vl xs % 2 = xs.getD 0 0 % 2 := by
  cases xs with
  | nil => simp at hn
  | cons x xs => simp only [vl, List.getD_cons_zero]; omega
theorem right_cases {d : Dy} (h : rightB d = true) : d = dy0 ∨ (d.mag.length ≠ 0 ∧ d.mag.length ≤ 256 ∧ d.mag.getD 0 0 % 2 = 1 ∧ d.mag.getD (d.mag.length - 1) 0 ≠ 0 ∧ -65536 ≤ d.exp ∧ d.exp ≤ 65536) := by
  unfold rightB at h
  by_cases hn : d.mag.length = 0
  · rw [if_pos hn] at h
    left
    obtain ⟨n, m, e⟩ := d
    have : m = [] := List.eq_nil_of_length_eq_zero hn
    subst this
    simp at h
    obtain ⟨rfl, rfl⟩ := h
    rfl
  · rw [if_neg hn] at h
    right
    exact ⟨hn, of_decide_eq_true h⟩
theorem right_of {d : Dy} (hn : d.mag.length ≠ 0) (h : d.mag.length ≤ 256 ∧ d.mag.getD 0 0 % 2 = 1 ∧ d.mag.getD (d.mag.length - 1) 0 ≠ 0 ∧ -65536 ≤ d.exp ∧ d.exp ≤ 65536) : rightB d = true := by
  unfold rightB; rw [if_neg hn]; exact decide_eq_true h
theorem right_zero : rightB dy0 = true := rfl
theorem right_exp {d : Dy} (h : rightB d = true) : -65536 ≤ d.exp ∧ d.exp ≤ 65536 ∧ d.mag.length ≤ 256 := by
  rcases right_cases h with rfl | h
  · simp [dy0]
  · omega
theorem sv_abs (d : Dy) : (sv d).natAbs = vl d.mag := by unfold sv; split <;> omega
theorem sv_neg {d : Dy} (h : vl d.mag ≠ 0) : decide (sv d < 0) = d.neg := by
  unfold sv; cases d.neg <;> simp <;> omega
theorem vl_ne_last {xs : List Nat} (hn : xs.length ≠ 0) (h : xs.getD (xs.length - 1) 0 ≠ 0) : vl xs ≠ 0 := by
  have s := vl_take_succ (xs := xs) (k := xs.length - 1) (by omega)
  rw [show xs.length - 1 + 1 = xs.length by omega, List.take_length] at s
  have := Nat.mul_pos (Nat.two_pow_pos (64 * (xs.length - 1))) (Nat.pos_of_ne_zero h)
  omega
theorem bl_limbs {xs : List Nat} (h : Lm xs) {n : Nat} (hl : xs.length ≤ n) : bl (vl xs) ≤ 64 * n :=
  bl_le_iff.2 (Nat.lt_of_lt_of_le (vl_lt h) (Nat.pow_le_pow_right (by omega) (by omega)))
theorem nrm_right {d : Dy} (hl : Lm d.mag) (h : rightB d = true) : nrm (sv d) d.exp = (d, 0) := by
  rcases right_cases h with rfl | ⟨hn, h1, h2, h3, h4, h5⟩
  · rfl
  · have h0 := vl_ne_last hn h3
    have hodd := vl_odd hl hn
    have ht : tz (vl d.mag) = 0 := tz_odd (by omega)
    have hb := bl_limbs hl h1
    have e0 : sv d ≠ 0 := by have := sv_abs d; omega
    have el := lo_vl hl (Or.inr h3)
    unfold nrm
    rw [if_neg e0, sv_abs, ht, if_neg (by simp; omega), Nat.pow_zero, Nat.div_one, el, sv_neg h0]
    simp
theorem nrm_exp {m e : Int} (h : (nrm m e).2 ≠ 0) : nrm m e = (dy0, 3) := by
  unfold nrm at *
  split
  · rename_i g; rw [if_pos g] at h; simp at h
  · rename_i g; rw [if_neg g] at h
    split
    · rfl
    · rename_i g2; rw [if_neg g2] at h; simp at h
theorem nrm_err (m e : Int) : (nrm m e).2 = 0 ∨ (nrm m e).2 = 3 := by
  by_cases h : (nrm m e).2 = 0
  · exact Or.inl h
  · right; rw [nrm_exp h]

theorem lo_last {v : Nat} (h : v ≠ 0) : (lo v).getD ((lo v).length - 1) 0 ≠ 0 ∧ (lo v).length ≠ 0 := by
  have hb := bl_pos h
  have hn : nl v ≠ 0 := by unfold nl; omega
  rw [lo_length]
  refine ⟨?_, hn⟩
  unfold lo
  rw [tl_getD (by omega)]
  have h1 : 2 ^ (64 * (nl v - 1)) ≤ v := by
    refine Nat.le_trans (Nat.pow_le_pow_right (by omega) ?_) (bl_spec h).1
    unfold nl; omega
  have h2 : v / 2 ^ (64 * (nl v - 1)) < 18446744073709551616 := by
    apply Nat.div_lt_of_lt_mul
    have := nl_fits v
    rw [show nl v = nl v - 1 + 1 by omega, pow64_succ, Nat.mul_comm] at this
    exact this
  rw [Nat.mod_eq_of_lt h2]
  have := Nat.div_pos h1 (Nat.two_pow_pos _)
  omega
theorem lo_odd {v : Nat} (h : v % 2 = 1) : (lo v).getD 0 0 % 2 = 1 := by
  have h0 : v ≠ 0 := by omega
  have a := vl_odd (lo_lm v) (lo_last h0).2
  rw [vl_lo] at a
  omega
/-- What nrm answers without an error is right, and has the value. -/
theorem nrm_ok {m e : Int} (h : (nrm m e).2 = 0) : rightB (nrm m e).1 = true ∧ ∀ L : Int, L ≤ e → L ≤ 0 → sv (nrm m e).1 * 2 ^ ((nrm m e).1.exp - L).toNat = m * 2 ^ (e - L).toNat := by
  unfold nrm at *
  by_cases h0 : m = 0
  · rw [if_pos h0]
    refine ⟨rfl, fun L _ _ => ?_⟩
    rw [h0]; simp [sv, dy0, vl]
  · rw [if_neg h0] at h ⊢
    by_cases hc : 16384 < bl m.natAbs - tz m.natAbs ∨ e + tz m.natAbs < -65536 ∨ 65536 < e + tz m.natAbs
    · rw [if_pos hc] at h; simp at h
    · rw [if_neg hc]
      have hm : m.natAbs ≠ 0 := by omega
      obtain ⟨d1, d2⟩ := tz_div hm
      have hv : m.natAbs / 2 ^ tz m.natAbs ≠ 0 := by omega
      obtain ⟨l1, l2⟩ := lo_last hv
      refine ⟨right_of l2 ⟨?_, lo_odd d1, l1, by simp only; omega, by simp only; omega⟩, fun L hL _ => ?_⟩
      · rw [lo_length]; unfold nl; rw [bl_div]; omega
      · have e1 : sv ⟨decide (m < 0), lo (m.natAbs / 2 ^ tz m.natAbs), e + tz m.natAbs⟩ * 2 ^ tz m.natAbs = m := by
          unfold sv
          simp only [vl_lo, decide_eq_true_eq]
          have e2 : ((m.natAbs / 2 ^ tz m.natAbs : Nat) : Int) * 2 ^ tz m.natAbs = (m.natAbs : Int) := by
            have := congrArg (Nat.cast (R := Int)) d2
            rw [Int.natCast_mul, Int.natCast_pow] at this
            exact this.symm
          split
          · rw [Int.neg_mul, e2]; omega
          · rw [e2]; omega
        show _ * 2 ^ (e + tz m.natAbs - L).toNat = _
        rw [show (e + (tz m.natAbs : Int) - L).toNat = tz m.natAbs + (e - L).toNat by omega, Int.pow_add, ← Int.mul_assoc, e1]
theorem nrm_q {m : Int} (h : (nrm m (-65536)).2 = 0) : rightB (nrm m (-65536)).1 = true ∧ qd (nrm m (-65536)).1 = m := by
  obtain ⟨a, b⟩ := nrm_ok h
  refine ⟨a, ?_⟩
  have := b (-65536) (by omega) (by omega)
  rw [show ((-65536 : Int) - -65536).toNat = 0 by omega, Int.pow_zero, Int.mul_one] at this
  exact this
theorem pow_add_int (a b : Nat) : (2 : Int) ^ (a + b) = 2 ^ a * 2 ^ b := Int.pow_add 2 a b
theorem nrm_qp {m : Int} (h : (nrm m (-131072)).2 = 0) : rightB (nrm m (-131072)).1 = true ∧ qd (nrm m (-131072)).1 * 2 ^ 65536 = m := by
  obtain ⟨a, b⟩ := nrm_ok h
  refine ⟨a, ?_⟩
  have hx := right_exp a
  have := b (-131072) (by omega) (by omega)
  rw [show ((-131072 : Int) - -131072).toNat = 0 by omega, Int.pow_zero, Int.mul_one] at this
  refine Eq.trans ?_ this
  unfold qd
  rw [Int.mul_assoc, ← pow_add_int, show ((nrm m (-131072)).1.exp - -131072).toNat = ((nrm m (-131072)).1.exp + 65536).toNat + 65536 by omega]
theorem qd_nrm {d : Dy} (hl : Lm d.mag) (h : rightB d = true) : nrm (qd d) (-65536) = (d, 0) := by
  have hx := right_exp h
  rw [← nrm_right hl h]
  have := nrm_shift (sv d) d.exp (d.exp + 65536).toNat
  rw [show d.exp - ((d.exp + 65536).toNat : Int) = -65536 by omega] at this
  exact this
theorem qd_inj {a b : Dy} (la : Lm a.mag) (lb : Lm b.mag) (ha : rightB a = true) (hb : rightB b = true) (h : qd a = qd b) : a = b := by
  have e1 := qd_nrm la ha
  rw [h, qd_nrm lb hb] at e1
  exact (congrArg Prod.fst e1).symm
theorem nrm_down (m : Int) : nrm m (-65536) = nrm (m * 2 ^ 65536) (-131072) := by
  have := nrm_shift m (-65536) 65536
  rw [show (-65536 : Int) - ((65536 : Nat) : Int) = -131072 by omega] at this
  exact this.symm
theorem pow_pos_int (n : Nat) : (0 : Int) < 2 ^ n := Int.pow_pos (by omega)
theorem mul_cancel {a b : Int} (n : Nat) (h : a * 2 ^ n = b * 2 ^ n) : a = b := Int.eq_of_mul_eq_mul_right (by have := pow_pos_int n; omega) h

/- What the program's exported functions answer. -/
def addD (a b : Dy) : Dy × Int := if rightB a && rightB b then nrm (qd a + qd b) (-65536) else (dy0, 2)
def subD (a b : Dy) : Dy × Int := if rightB a && rightB b then nrm (qd a - qd b) (-65536) else (dy0, 2)
def mulD (a b : Dy) : Dy × Int := if rightB a && rightB b then nrm (qd a * qd b) (-131072) else (dy0, 2)
def normD (d : Dy) : Dy × Int := nrm (sv d) d.exp
def sgI (x : Int) : Int := if x < 0 then -1 else if x = 0 then 0 else 1
def signD (d : Dy) : Int × Int := if rightB d then (sgI (sv d), 0) else (0, 2)
def cmpD (a b : Dy) : Int × Int := if rightB a && rightB b then (sgI (qd a - qd b), 0) else (0, 2)
theorem sg_mul {x : Int} (n : Nat) : sgI (x * 2 ^ n) = sgI x := by
  have := pow_pos_int n
  unfold sgI
  rcases Int.lt_trichotomy x 0 with h | h | h
  · rw [if_pos (Int.mul_neg_of_neg_of_pos h this), if_pos h]
  · subst h; simp
  · have := Int.mul_pos h this
    rw [if_neg (by omega), if_neg (by omega), if_neg (by omega), if_neg (by omega)]
end Go.Proofs.YtokfkooffbihcaaDoor
