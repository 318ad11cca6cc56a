/- Layer 13, plain: with the signs of a list turned, what is solved has its signs turned (of noughts: whichever). -/
import Derived.Test.YtclldmdhpojciaaS2
namespace Go.Proofs.Ytclldmdhpojciaa
open Go.RowKit

/-- Opposite; noughts of either sign. -/
def OpD : Ieee.Datum → Ieee.Datum → Prop
  | .number s m i, .number t n j => m = n ∧ i = j ∧ (m = 0 ∨ t = !s)
  | .infinity s, .infinity t => t = !s
  | .nan _ _, .nan _ _ => True
  | _, _ => False
def OpDO : Option Ieee.Datum → Option Ieee.Datum → Prop
  | none, none => True
  | some x, some y => OpD x y
  | _, _ => False
theorem signed_not (s : Bool) (m k : Nat) : Ieee.signed (!s) m k = -Ieee.signed s m k := by
  unfold Ieee.signed
  cases s <;> simp
theorem signed_op {s t : Bool} {m k : Nat} (h : m = 0 ∨ t = !s) : Ieee.signed t m k = -Ieee.signed s m k := by
  rcases h with rfl | rfl
  · unfold Ieee.signed
    cases s <;> cases t <;> simp
  · exact signed_not s m k
theorem OpD.turned {x y : Ieee.Datum} (h : OpD x y) : OpD x.opposite y.opposite := by
  cases x <;> cases y <;> try exact h.elim
  · rename_i s m i t n j
    obtain ⟨h1, h2, h3⟩ := h
    exact ⟨h1, h2, h3.imp id (fun e => by rw [e])⟩
  · rename_i s t
    have h : t = !s := h
    show (!t) = !!s
    rw [h]
  · exact trivial
theorem op_sum {x x' y y' : Ieee.Datum} (h : OpD x x') (g : OpD y y') : OpDO (x.sum y) (x'.sum y') := by
  cases x <;> cases x' <;> try exact h.elim
  · rename_i s m i t n j
    obtain ⟨rfl, rfl, h3⟩ := h
    cases y <;> cases y' <;> try exact g.elim
    · rename_i u k e v l f
      obtain ⟨rfl, rfl, g3⟩ := g
      show OpD (.number _ _ _) (.number _ _ _)
      have e1 : Ieee.signed t m (i - min i e).toNat + Ieee.signed v k (e - min i e).toNat = -(Ieee.signed s m (i - min i e).toNat + Ieee.signed u k (e - min i e).toNat) := by
        rw [signed_op h3, signed_op g3]; omega
      rw [e1]
      generalize Ieee.signed s m (i - min i e).toNat + Ieee.signed u k (e - min i e).toNat = T
      refine ⟨by rw [Int.natAbs_neg], rfl, ?_⟩
      by_cases hT : T = 0
      · left; rw [hT]; rfl
      · right
        rw [if_neg hT, if_neg (by omega)]
        by_cases c : T < 0
        · rw [decide_eq_true c, decide_eq_false (by omega)]; rfl
        · rw [decide_eq_false c, decide_eq_true (by omega)]; rfl
    · exact g
    · exact trivial
  · rename_i s t
    have h : t = !s := h
    subst h
    cases y <;> cases y' <;> try exact g.elim
    · exact rfl
    · rename_i u v
      have g : v = !u := g
      subst g
      cases s <;> cases u <;> first | exact rfl | exact trivial
    · exact trivial
  · cases y <;> cases y' <;> first | exact g.elim | exact trivial
theorem op_prod (l : Ieee.Datum) {x x' : Ieee.Datum} (h : OpD x x') : OpDO (l.product x) (l.product x') := by
  cases x <;> cases x' <;> try exact h.elim
  · rename_i s m i t n j
    obtain ⟨rfl, rfl, h3⟩ := h
    cases l with
    | nan u v => exact trivial
    | infinity u =>
      show OpDO (if m = 0 then none else some (.infinity (u ^^ s))) (if m = 0 then none else some (.infinity (u ^^ t)))
      by_cases hm : m = 0
      · rw [if_pos hm, if_pos hm]; exact trivial
      · rw [if_neg hm, if_neg hm]
        have h3 := h3.resolve_left hm
        subst h3
        cases u <;> cases s <;> exact rfl
    | number u k e =>
      refine ⟨rfl, rfl, ?_⟩
      rcases h3 with rfl | rfl
      · left; rw [Nat.mul_zero]
      · right; cases u <;> cases s <;> rfl
  · rename_i s t
    have h : t = !s := h
    subst h
    cases l with
    | nan u v => exact trivial
    | infinity u => cases u <;> cases s <;> exact rfl
    | number u k e =>
      show OpDO (if k = 0 then none else some (.infinity (s ^^ u))) (if k = 0 then none else some (.infinity ((!s) ^^ u)))
      by_cases hm : k = 0
      · rw [if_pos hm, if_pos hm]; exact trivial
      · rw [if_neg hm, if_neg hm]
        cases u <;> cases s <;> exact rfl
  · cases l <;> exact trivial
theorem op_quot (d : Ieee.Datum) {x x' : Ieee.Datum} (h : OpD x x') : OpDO (x.quotient 54 d) (x'.quotient 54 d) := by
  cases x <;> cases x' <;> try exact h.elim
  · rename_i s m i t n j
    obtain ⟨rfl, rfl, h3⟩ := h
    cases d with
    | nan u v => exact trivial
    | infinity u => exact ⟨rfl, rfl, Or.inl rfl⟩
    | number u k e =>
      simp only [Ieee.Datum.quotient]
      by_cases hk : k = 0
      · rw [if_pos hk, if_pos hk]
        by_cases hm : m = 0
        · rw [if_pos hm, if_pos hm]; exact trivial
        · rw [if_neg hm, if_neg hm]
          have h3 := h3.resolve_left hm
          subst h3
          cases u <;> cases s <;> exact rfl
      · rw [if_neg hk, if_neg hk]
        refine ⟨rfl, rfl, ?_⟩
        rcases h3 with rfl | rfl
        · left; simp
        · right; cases u <;> cases s <;> rfl
  · rename_i s t
    have h : t = !s := h
    subst h
    cases d with
    | nan u v => exact trivial
    | infinity u => exact trivial
    | number u k e => cases u <;> cases s <;> exact rfl
  · cases d <;> exact trivial
/-- The rung does not hang on the sign. -/
theorem near_form (m : Nat) (p : Int) : ∃ r, r ≤ 9218868437227405312 ∧ (m = 0 → r = 0) ∧ ∀ s, Ieee.double.nearest s m p = Ieee.double.word s r := by
  by_cases hm : m = 0
  · exact ⟨0, by omega, fun _ => rfl, fun s => by unfold Ieee.Format.nearest; rw [if_pos hm]⟩
  · refine ⟨min ((max (p + m.log2 - Ieee.double.fractionBits) Ieee.double.leastPlace - Ieee.double.leastPlace).toNat * Ieee.double.binade + Ieee.Toward.even.cut false (m <<< (p - max (p + m.log2 - Ieee.double.fractionBits) Ieee.double.leastPlace).toNat) (max (p + m.log2 - Ieee.double.fractionBits) Ieee.double.leastPlace - p).toNat) Ieee.double.infRung, Nat.le_trans (Nat.min_le_right _ _) (by decide), fun h => absurd h hm, fun s => ?_⟩
    unfold Ieee.Format.nearest
    rw [if_neg hm]
    rfl
def Op (a b : Nat) : Prop := a < 18446744073709551616 ∧ b < 18446744073709551616 ∧ rung b = rung a ∧ (rung a = 0 ∨ sgn b = !sgn a)
def OpO : Option Nat → Option Nat → Prop
  | none, none => True
  | some a, some b => Op a b
  | _, _ => False
theorem word_parts (s : Bool) {r : Nat} (hr : r ≤ 9218868437227405312) : Ieee.double.word s r < 18446744073709551616 ∧ rung (Ieee.double.word s r) = r ∧ sgn (Ieee.double.word s r) = s := by
  have e : Ieee.double.word s r = if s then 9223372036854775808 + r else r := by
    unfold Ieee.Format.word
    rw [show Ieee.double.signWeight = 9223372036854775808 by decide]
  rw [e]
  unfold rung sgn
  cases s
  · simp only [Bool.false_eq_true, if_false]
    exact ⟨by omega, by omega, decide_eq_false (by omega)⟩
  · simp only [if_true]
    exact ⟨by omega, by omega, decide_eq_true (by omega)⟩
theorem op_write {x y : Ieee.Datum} (h : OpD x y) (hn : x.isNaN = false) : Op (Ieee.double.write x) (Ieee.double.write y) := by
  cases x <;> cases y <;> try exact h.elim
  · rename_i s m i t n j
    obtain ⟨rfl, rfl, h3⟩ := h
    obtain ⟨r, hr, h0, hf⟩ := near_form m i
    show Op (Ieee.double.nearest s m i) (Ieee.double.nearest t m i)
    rw [hf, hf]
    obtain ⟨a1, a2, a3⟩ := word_parts s hr
    obtain ⟨b1, b2, b3⟩ := word_parts t hr
    refine ⟨a1, b1, by rw [a2, b2], ?_⟩
    rcases h3 with g | g
    · left; rw [a2]; exact h0 g
    · right; rw [a3, b3]; exact g
  · rename_i s t
    have h : t = !s := h
    show Op (Ieee.double.word s Ieee.double.infRung) (Ieee.double.word t Ieee.double.infRung)
    rw [show Ieee.double.infRung = 9218868437227405312 by decide]
    obtain ⟨a1, a2, a3⟩ := word_parts s (Nat.le_refl 9218868437227405312)
    obtain ⟨b1, b2, b3⟩ := word_parts t (Nat.le_refl 9218868437227405312)
    exact ⟨a1, b1, by rw [a2, b2], Or.inr (by rw [a3, b3]; exact h)⟩
  · cases hn
theorem op_read {a b : Nat} (h : Op a b) : OpD (Ieee.double.read a) (Ieee.double.read b) := by
  obtain ⟨h1, h2, h3, h4⟩ := h
  rw [read_eq a h1, read_eq b h2, h3]
  by_cases c1 : rung a < 9218868437227405312
  · rw [if_pos c1, if_pos c1]
    refine ⟨rfl, rfl, h4.imp (fun e => ?_) id⟩
    rw [e]; rfl
  · rw [if_neg c1, if_neg c1]
    have h4 := h4.resolve_left (by omega)
    by_cases c2 : rung a = 9218868437227405312
    · rw [if_pos c2, if_pos c2]; exact h4
    · rw [if_neg c2, if_neg c2]; exact trivial
theorem op_map {o p : Option Ieee.Datum} (h : OpDO o p) (hn : ∀ d, o = some d → d.isNaN = false) : OpO (o.map Ieee.double.write) (p.map Ieee.double.write) := by
  cases o <;> cases p
  · exact trivial
  · exact h.elim
  · exact h.elim
  · exact op_write h (hn _ rfl)
theorem opO_sub {o o' p p' : Option Nat} (h : OpO o o') (g : OpO p p') : OpO (opO .sub o p) (opO .sub o' p') := by
  cases o <;> cases o' <;> try exact h.elim
  · cases p <;> cases p' <;> first | exact g.elim | exact trivial
  · cases p <;> cases p' <;> try exact g.elim
    · exact trivial
    · rename_i a a' b b'
      show OpO (floatBits .sub .f64 a b) (floatBits .sub .f64 a' b')
      rw [(fbits_map a b).2.1, (fbits_map a' b').2.1]
      exact op_map (op_sum (op_read h) (op_read g).turned) fun d hd => sum_nan hd
theorem opO_mul (l : Option Nat) {p p' : Option Nat} (g : OpO p p') : OpO (opO .mul l p) (opO .mul l p') := by
  cases l with
  | none => exact trivial
  | some a =>
    cases p <;> cases p' <;> try exact g.elim
    · exact trivial
    · rename_i b b'
      show OpO (floatBits .mul .f64 a b) (floatBits .mul .f64 a b')
      rw [(fbits_map a b).2.2.1, (fbits_map a b').2.2.1]
      exact op_map (op_prod _ (op_read g)) fun d hd => prod_nan hd
theorem opO_quo (l : Option Nat) {p p' : Option Nat} (g : OpO p p') : OpO (opO .quo p l) (opO .quo p' l) := by
  cases p <;> cases p' <;> try exact g.elim
  · exact trivial
  · rename_i b b'
    cases l with
    | none => exact trivial
    | some a =>
      show OpO (floatBits .quo .f64 b a) (floatBits .quo .f64 b' a)
      rw [(fbits_map b a).2.2.2, (fbits_map b' a).2.2.2]
      exact op_map (op_quot _ (op_read g)) fun d hd => quot_nan hd
theorem op_les {s s' : Option Nat} {a b b' : Nat → Option Nat} {n : Nat} (h : OpO s s') (g : ∀ k, k < n → OpO (b k) (b' k)) : OpO (lesO s a b n) (lesO s' a b' n) := by
  induction n with
  | zero => exact h
  | succ k ih => exact opO_sub (ih fun j hj => g j (by omega)) (opO_mul _ (g k (by omega)))
theorem op_fw {f : Nat → Nat → Nat} {b b' : Nat → Option Nat} {N : Nat} (h : ∀ i, i < N → OpO (b i) (b' i)) : ∀ i, i < N → OpO (fwO f b i) (fwO f b' i) := by
  intro i
  induction i using Nat.strongRecOn with
  | _ i ih =>
    intro hi
    rw [fwO_eq, fwO_eq]
    exact op_les (h i hi) fun k hk => ih k hk (by omega)
theorem op_bk {f : Nat → Nat → Nat} {z z' : Nat → Option Nat} {N : Nat} (h : ∀ i, i < N → OpO (z i) (z' i)) : ∀ m i, i + m + 1 = N → OpO (bkO f z N i) (bkO f z' N i) := by
  intro m
  induction m using Nat.strongRecOn with
  | _ m ih =>
    intro i hi
    rw [bkO_eq hi, bkO_eq hi]
    exact op_les (h i (by omega)) fun k hk => ih (N - (i + 1 + k) - 1) (by omega) _ (by omega)
theorem op_sl {ls ds : List Nat} {N : Nat} {b b' : Nat → Option Nat} (h : ∀ i, i < N → OpO (b i) (b' i)) {i : Nat} (hi : i < N) : OpO (slO ls ds N b i) (slO ls ds N b' i) :=
  op_bk (fun k hk => opO_quo _ (op_fw h k hk)) (N - 1 - i) i (by omega)
end Go.Proofs.Ytclldmdhpojciaa
