/- Matrices turned over and multiplied, plain: what is told of each entry. -/
import Derived.Test.YtclldmdhpojciaaXm4
namespace Go.Proofs.Ytclldmdhpojciaa
open Go.RowKit

/-- No NaN but as none. -/
def PO (o : Option Nat) : Prop := ∀ v, o = some v → nanB v = false
theorem PO_toO (x : Nat) : PO (toO x) := fun v h => by
  unfold toO at h
  split at h
  · cases h
  · cases h; rename_i h; simpa using h
theorem PO_op {op : BinOp} (hop : FourOp op) (o p : Option Nat) : PO (opO op o p) := fun v h => by
  cases o with
  | none => cases h
  | some a =>
    cases p with
    | none => cases h
    | some b => exact rung_nan (op_word hop (show floatBits op .f64 a b = some v from h)).2
theorem PO_zero : PO (some 0) := fun v h => by cases h; decide
theorem PO_mu (C D : Nat) (xs ys : List Nat) (i j k : Nat) : PO (muO C D xs ys i j k) := by
  cases k with
  | zero => exact PO_zero
  | succ k => exact PO_op (Or.inl rfl) _ _
theorem NR_PO {o : Option Nat} {r : Nat} (h : NR o r) (hp : PO o) : toO r = o := by
  cases o with
  | none =>
    have : nanB r = true := h.2
    unfold toO; rw [this]; rfl
  | some v =>
    have e : r = v := h.2
    unfold toO
    rw [e, hp v rfl]
    rfl
theorem tabM_at {R C : Nat} {o : Nat → Nat → Option Nat} {i j : Nat} (hi : i < R) (hj : j < C) : (tabM R C o).getD (i * C + j) none = o i j := by
  unfold tabM
  rw [tab_at (at_lt hi hj), (at_div hj).1, (at_div hj).2]
/-- What was told of an entry is that entry. -/
theorem en_of {R C : Nat} {o : Nat → Nat → Option Nat} {ps : List Nat} (h : LN (tabM R C o) ps) {i j : Nat} (hp : PO (o i j)) (hi : i < R) (hj : j < C) : enO C ps i j = o i j := by
  have := h.2 (i * C + j) (by rw [tabM_len]; exact at_lt hi hj)
  rw [tabM_at hi hj] at this
  exact NR_PO this hp
theorem div_lt' {R C p : Nat} (h : p < R * C) : p / C < R ∧ p % C < C := by
  have hC : 0 < C := Nat.pos_of_ne_zero (fun e => by subst e; simp at h)
  exact ⟨Nat.div_lt_of_lt_mul (by rw [Nat.mul_comm]; exact h), Nat.mod_lt _ hC⟩
theorem tabM_congr {R C : Nat} {o p : Nat → Nat → Option Nat} (h : ∀ i j, i < R → j < C → o i j = p i j) : tabM R C o = tabM R C p := by
  unfold tabM tab
  apply List.map_congr_left
  intro a ha
  have := div_lt' (List.mem_range.1 ha)
  exact h _ _ this.1 this.2
theorem LN_self {R C : Nat} {xs : List Nat} (hF : FW xs) (hl : xs.length = R * C) : LN (tabM R C (enO C xs)) xs := by
  refine ⟨by rw [tabM_len]; exact hl, fun i hi => ?_⟩
  rw [tabM_len] at hi
  unfold tabM
  rw [tab_at hi]
  have e : i / C * C + i % C = i := by rw [Nat.mul_comm]; exact Nat.div_add_mod i C
  unfold enO
  rw [e]
  exact toO_NR (hF.at (by rw [hl]; exact hi))
/-- Turned over, what was told is told the other way round. -/
theorem turn_of {R C : Nat} {o : Nat → Nat → Option Nat} {ps : List Nat} (h : LN (tabM R C o) ps) (hp : ∀ i j, PO (o i j)) : tabM C R (fun i j => enO C ps j i) = tabM C R (fun i j => o j i) :=
  tabM_congr fun i j hi hj => en_of h (hp j i) hj hi
theorem mprod_comm (x y : Ieee.Datum) : x.product y = y.product x := by
  cases x with
  | nan s t => cases y <;> rfl
  | infinity s =>
    cases y with
    | nan u v => rfl
    | infinity u => cases s <;> cases u <;> rfl
    | number u n j => rfl
  | number s m i =>
    cases y with
    | nan u v => rfl
    | infinity u => rfl
    | number u n j =>
      simp only [Ieee.Datum.product]
      rw [Nat.mul_comm, Int.add_comm i, Bool.xor_comm]
theorem mulO_comm' (o p : Option Nat) : opO .mul o p = opO .mul p o := by
  cases o with
  | none => cases p <;> rfl
  | some a =>
    cases p with
    | none => rfl
    | some b =>
      show floatBits .mul .f64 a b = floatBits .mul .f64 b a
      rw [(fbits_map a b).2.2.1, (fbits_map b a).2.2.1, mprod_comm]
theorem mu_congr {C D D2 : Nat} {xs ys xs2 ys2 : List Nat} {C2 : Nat} {i j i2 j2 : Nat} {k : Nat} (h : ∀ q, q < k → opO .mul (enO C xs i q) (enO D ys q j) = opO .mul (enO C2 xs2 i2 q) (enO D2 ys2 q j2)) : muO C D xs ys i j k = muO C2 D2 xs2 ys2 i2 j2 k := by
  induction k with
  | zero => rfl
  | succ k ih => rw [muO, muO, ih (fun q hq => h q (by omega)), h k (by omega)]
/-- The product of both turned over, the other way round. -/
theorem mul_turn {R C D : Nat} {xs ys us ss : List Nat} (hu : LN (tabM D C (fun i j => enO D ys j i)) us) (hs : LN (tabM C R (fun i j => enO C xs j i)) ss) {i j : Nat} (hi : i < D) (hj : j < R) : muO C R us ss i j C = muO C D xs ys j i C :=
  mu_congr fun q hq => by
    rw [en_of hu (PO_toO _) hi hq, en_of hs (PO_toO _) hq hj, mulO_comm']
theorem turns_same {R C D : Nat} {xs ys us ss ps ts vs : List Nat} (hp : LN (tabM R D (fun i j => muO C D xs ys i j C)) ps) (ht : LN (tabM D R (fun i j => enO D ps j i)) ts) (hu : LN (tabM D C (fun i j => enO D ys j i)) us) (hs : LN (tabM C R (fun i j => enO C xs j i)) ss) (hv : LN (tabM D R (fun i j => muO C R us ss i j C)) vs) : sameL ts vs = true := by
  rw [turn_of hp (fun i j => PO_mu _ _ _ _ _ _ _)] at ht
  rw [tabM_congr (p := fun i j => muO C D xs ys j i C) (fun i j hi hj => mul_turn hu hs hi hj)] at hv
  exact ht.same hv
theorem twice_same {R C : Nat} {xs ss ws : List Nat} (hF : FW xs) (hl : xs.length = R * C) (hs : LN (tabM C R (fun i j => enO C xs j i)) ss) (hw : LN (tabM R C (fun i j => enO R ss j i)) ws) : sameL ws xs = true := by
  rw [turn_of hs (fun i j => PO_toO _)] at hw
  exact hw.same (LN_self hF hl)
/-- Apply to a column is the product's column. -/
theorem column_same {R C D c : Nat} {xs ys ps cs : List Nat} (hc : c < D) (hcv : ∀ q, q < C → cs.getD q 0 = ys.getD (q * D + c) 0) (hp : LN (tabM R D (fun i j => muO C D xs ys i j C)) ps) {qs : List Nat} (hq : qs.length = R) (hqv : ∀ i, i < R → qs.getD i 0 = ps.getD (i * D + c) 0) :
    LN (tabM R 1 (fun i j => muO C 1 xs cs i j C)) qs := by
  refine ⟨by rw [tabM_len, Nat.mul_one]; exact hq, fun i hi => ?_⟩
  rw [tabM_len, Nat.mul_one] at hi
  have h1 := tabM_at (R := R) (C := 1) (o := fun i j => muO C 1 xs cs i j C) hi (show 0 < 1 by omega)
  rw [Nat.mul_one, Nat.add_zero] at h1
  rw [h1, hqv i hi]
  have h2 := hp.2 (i * D + c) (by rw [tabM_len]; exact at_lt hi hc)
  rw [tabM_at hi hc] at h2
  have e : muO C 1 xs cs i 0 C = muO C D xs ys i c C := mu_congr fun q hq => by
    unfold enO
    rw [Nat.mul_one, Nat.add_zero, hcv q hq]
  show NR (muO C 1 xs cs i 0 C) _
  rw [e]
  exact h2
theorem sameB_toO {a b : Nat} (h : sameB a b = true) : toO a = toO b := by
  unfold sameB at h
  unfold toO
  cases ha : nanB a
  · rw [ha] at h
    simp only [Bool.false_eq_true, if_false] at h
    have e : a = b := by simpa using h
    subst e
    rw [ha]
  · rw [ha] at h
    simp only [if_true] at h
    rw [h]
    rfl
theorem sameL_at {xs ys : List Nat} (h : sameL xs ys = true) {j : Nat} (hj : j < xs.length) : sameB (xs.getD j 0) (ys.getD j 0) = true := by
  unfold sameL at h
  simp only [Bool.and_eq_true] at h
  exact List.all_eq_true.1 h.2 j (List.mem_range.2 hj)
/-- A matrix times itself turned over is symmetric. -/
theorem own_sym {R C : Nat} {xs ys us ps : List Nat} (hR : R ≤ 48) (hu : LN (tabM R C (fun i j => enO R ys j i)) us) (hs : sameL us xs = true) (hp : LN (tabM R R (fun i j => muO C R xs ys i j C)) ps) : symM R R ps = true := by
  have hpl : ps.length = R * R := by rw [hp.1, tabM_len]
  have hul : us.length = R * C := by rw [hu.1, tabM_len]
  unfold symM
  rw [hpl, rightM_yes hR hR, decide_eq_true rfl, Bool.true_and, Bool.true_and, List.all_eq_true]
  simp only [Int.toNat_natCast]
  intro p hm
  have hm := List.mem_range.1 hm
  obtain ⟨h1, h2⟩ := div_lt' hm
  have hy : ∀ k j, k < C → j < R → enO R ys k j = enO C xs j k := fun k j hk hj => by
    rw [← en_of hu (PO_toO _) hj hk]
    unfold enO
    exact sameB_toO (sameL_at hs (by rw [hul]; exact at_lt hj hk))
  have e1 := hp.2 p (by rw [tabM_len]; exact hm)
  have e2 := hp.2 (p % R * R + p / R) (by rw [tabM_len]; exact at_lt h2 h1)
  rw [tabM_at h2 h1] at e2
  unfold tabM at e1
  rw [tab_at hm] at e1
  have e : muO C R xs ys (p % R) (p / R) C = muO C R xs ys (p / R) (p % R) C := mu_congr fun q hq => by
    rw [hy q _ hq h1, hy q _ hq h2, mulO_comm']
  rw [e] at e2
  exact NR_sameB e1 e2
end Go.Proofs.Ytclldmdhpojciaa
