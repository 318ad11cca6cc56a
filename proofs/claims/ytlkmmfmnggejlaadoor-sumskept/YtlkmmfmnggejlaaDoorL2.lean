/- What the program's Near answers of at most 4096 floats, by plain functions. -/
import Derived.Test.YtlkmmfmnggejlaaDoorL1
import Derived.Test.YtlkmmfmnggejlaaDoorBs
import Derived.Test.YtlkmmfmnggejlaaDoorY5
import Derived.Test.YtlkmmfmnggejlaaDoorCi
import Derived.Test.YtlkmmfmnggejlaaDoorL4
import Derived.Test.YtlkmmfmnggejlaaDoorJj
import Derived.Test.YtlkmmfmnggejlaaDoorZ8
namespace Go.Proofs.YtlkmmfmnggejlaaDoor
open Go.RowKit

/-- The nearest number is within 2^-53 of it. -/
theorem nst_err {X n : Int} (h : Nst X n) : 9007199254740992 * (n - X).natAbs ≤ X.natAbs := by
  by_cases c : X.natAbs ≤ 9007199254740992
  · have e := nst_self (rep_small (i := 0) (by rw [Int.pow_zero]; exact Int.one_dvd X) (by rw [Nat.pow_zero, Nat.mul_one]; exact c)) h
    rw [e, Int.sub_self]; simp
  · obtain ⟨l, hl⟩ : ∃ l : Nat, X.natAbs.log2 = 53 + l := ⟨X.natAbs.log2 - 53, by
      have : 53 ≤ X.natAbs.log2 := (Nat.le_log2 (by omega)).2 (by omega)
      omega⟩
    have h1 : 2 ^ (53 + l) ≤ X.natAbs := by rw [← hl]; exact Nat.log2_self_le (by omega)
    have h2 : X.natAbs < 2 ^ (53 + l + 1) := by rw [← hl]; exact Nat.lt_log2_self
    rw [Nat.pow_add] at h1
    rw [Nat.pow_succ, Nat.pow_add] at h2
    have hp := Nat.two_pow_pos l
    have hm : Rep ((X + 2 ^ l) / (2 ^ (l + 1)) * 2 ^ (l + 1)) := by
      refine ⟨l + 1, _, rfl, ?_⟩
      have e1 : ((2 : Int) ^ (l + 1)) = 2 * (2 : Int) ^ l := by rw [Int.pow_succ, Int.mul_comm]
      have e2 : ((2 : Int) ^ l) = ((2 ^ l : Nat) : Int) := (pw_cast l).symm
      rw [e1, e2]
      generalize (2 : Nat) ^ l = w at *
      have a1 : (X + (w : Int)) / (2 * (w : Int)) < 9007199254740993 := Int.ediv_lt_of_lt_mul (by omega) (by omega)
      have a2 : -9007199254740992 ≤ (X + (w : Int)) / (2 * (w : Int)) := (Int.le_ediv_iff_mul_le (by omega)).2 (by omega)
      omega
    have e := h.2 _ hm
    have d : ((X + 2 ^ l) / (2 ^ (l + 1)) * 2 ^ (l + 1) - X).natAbs ≤ 2 ^ l := by
      have e1 : ((2 : Int) ^ (l + 1)) = 2 * (2 : Int) ^ l := by rw [Int.pow_succ, Int.mul_comm]
      have e2 : ((2 : Int) ^ l) = ((2 ^ l : Nat) : Int) := (pw_cast l).symm
      rw [e1, e2]
      generalize (2 : Nat) ^ l = w at *
      have b1 := Int.mul_ediv_add_emod (X + (w : Int)) (2 * (w : Int))
      have b2 := Int.emod_nonneg (X + (w : Int)) (show 2 * (w : Int) ≠ 0 by omega)
      have b3 := Int.emod_lt_of_pos (X + (w : Int)) (show 0 < 2 * (w : Int) by omega)
      rw [Int.mul_comm] at b1
      generalize (X + (w : Int)) / (2 * (w : Int)) * (2 * (w : Int)) = t at *
      omega
    generalize (X + 2 ^ l) / (2 ^ (l + 1)) * 2 ^ (l + 1) - X = z at *
    generalize (2 : Nat) ^ l = w at *
    omega
/-- A sum that is finite is the nearest one. -/
theorem add_nst {x y r : Nat} (hx : x < 18446744073709551616) (hy : y < 18446744073709551616) (fx : finB x = true) (fy : finB y = true) (h : floatBits .add .f64 x y = some r) (fr : finB r = true) : Nst (vI x + vI y) (vI r) := by
  obtain ⟨T, u, s, e, hX, hs⟩ := add_sum hx hy fx fy
  rw [e] at h
  have h := Option.some.inj h
  by_cases h0 : T = 0
  · have ef : r = Ieee.double.word s 0 := by rw [← h, h0]; rfl
    have hr := word_rung s (show 0 < 9223372036854775808 by omega)
    have e0 : vI r = 0 := vI_nil1 (by rw [ef, hr.1])
    rw [hX, h0, e0, Int.zero_mul]
    exact ⟨rep_zero, fun m _ => by omega⟩
  · obtain ⟨k, e1, hk, g⟩ := near_anyD s (-1074 + (u : Int)) 0 (m := T.natAbs) (by omega) (by omega)
    have hr := word_rung s (show k < 9223372036854775808 by omega)
    rw [e1] at h
    have hk2 : rung r = k := by rw [← h, hr.1]
    have hs2 : sgn r = s := by rw [← h, hr.2]
    rw [hX]
    refine nst_mid (k := k) ?_ (by have := fin_rung fr; omega) (fun q hq => ?_)
    · unfold vI
      rw [hk2, hs2, hs h0]
      have := (neg_pw (T := T) (u := u)).1
      by_cases g2 : T < 0
      · rw [if_pos (this.2 g2)]; simp [g2]
      · rw [if_neg (fun z => g2 (this.1 z))]; simp [g2]
    · have := g q hq
      rw [show (-1074 + (u : Int) + 1074 + ((0 : Nat) : Int)).toNat = u by omega] at this
      rw [Int.natAbs_mul, pw_abs]
      exact this
/-- Both parts of a finite sum are finite. -/
theorem add_parts {u x v : Nat} (hu : u < 18446744073709551616) (nu : nanB u = false) (hx : x < 18446744073709551616) (nx : nanB x = false) (h : floatBits .add .f64 u x = some v) (fv : finB v = true) : finB u = true ∧ finB x = true := by
  have rd : ∀ {z : Nat}, z < 18446744073709551616 → nanB z = false → finB z = false → Ieee.double.read z = .infinity (sgn z) := fun {z} hz n hf => by
    have h1 : rung z = 9218868437227405312 := by
      unfold finB at hf; unfold nanB at n; simp at hf n; omega
    rw [read_eq z hz, if_neg (by omega), if_pos h1]
  have no : ∀ s, v = Ieee.double.word s 9218868437227405312 → False := fun s e => by
    have := word_rung s (show 9218868437227405312 < 9223372036854775808 by omega)
    unfold finB at fv
    rw [e, this.1] at fv
    simp at fv
  rw [(fbits_map u x).1] at h
  cases fu : finB u <;> cases fx : finB x
  · rw [rd hu nu fu, rd hx nx fx] at h
    cases hs : sgn u <;> cases ht : sgn x <;> rw [hs, ht] at h <;> simp only [Ieee.Datum.sum] at h
    · exact absurd (Option.some.inj h).symm (no _)
    · cases h
    · cases h
    · exact absurd (Option.some.inj h).symm (no _)
  · rw [rd hu nu fu, read_fin hx fx] at h
    simp only [Ieee.Datum.sum] at h
    exact absurd (Option.some.inj h).symm (no _)
  · rw [read_fin hu fu, rd hx nx fx] at h
    simp only [Ieee.Datum.sum] at h
    exact absurd (Option.some.inj h).symm (no _)
  · exact ⟨rfl, rfl⟩
/-- Floats summed exactly; their sizes. -/
def lv : List Nat → Int
  | [] => 0
  | x :: l => vI x + lv l
def la : List Nat → Int
  | [] => 0
  | x :: l => (val (rung x) : Int) + la l
theorem lv_app (l m : List Nat) : lv (l ++ m) = lv l + lv m := by
  induction l with
  | nil => simp [lv]
  | cons x l ih => rw [List.cons_append, lv, lv, ih]; omega
theorem la_app (l m : List Nat) : la (l ++ m) = la l + la m := by
  induction l with
  | nil => simp [la]
  | cons x l ih => rw [List.cons_append, la, la, ih]; omega
theorem la_pos (l : List Nat) : 0 ≤ la l := by
  induction l with
  | nil => simp [la]
  | cons x l ih => rw [la]; omega
theorem vI_size (x : Nat) : (vI x).natAbs = val (rung x) := by unfold vI; split <;> omega
theorem lv_la (l : List Nat) : (lv l).natAbs ≤ (la l).natAbs := by
  induction l with
  | nil => simp [lv, la]
  | cons x l ih =>
    rw [lv, la]
    have := vI_size x
    have := la_pos l
    omega
theorem take_next {xs : List Nat} {k : Nat} (hk : k < xs.length) : xs.take (k + 1) = xs.take k ++ [xs.getD k 0] := by
  rw [List.take_add_one, List.getD_eq_getElem?_getD]
  simp [hk]
theorem sI_lv (xs : List Nat) : ∀ k, k ≤ xs.length → sI xs k = lv (xs.take k)
  | 0, _ => by simp [sI, lv]
  | k + 1, h => by
    show sI xs k + vI (xs.getD k 0) = _
    rw [sI_lv xs k (by omega), take_next (by omega), lv_app]
    simp [lv]
theorem sI_la (xs : List Nat) : ∀ k, k ≤ xs.length → sI (xs.map rung) k = la (xs.take k)
  | 0, _ => by simp [sI, la]
  | k + 1, h => by
    show sI (xs.map rung) k + vI ((xs.map rung).getD k 0) = _
    have e : vI ((xs.map rung).getD k 0) = (val (rung (xs.getD k 0)) : Int) := by
      have : (xs.map rung).getD k 0 = rung (xs.getD k 0) := by simp [List.getD_eq_getElem?_getD, show k < xs.length by omega]
      rw [this]
      unfold vI
      rw [(rung_pos (rung_lt _)).2, (rung_pos (rung_lt _)).1]; rfl
    rw [sI_la xs k (by omega), take_next (by omega), la_app, e]
    simp [la]
/-- One more sum: what is lost so far. -/
theorem err_step {k m : Nat} {U S X T V A B : Int} (h1 : 4503599627370496 * (U - S).natAbs ≤ (k * A).natAbs) (h2 : 4503599627370496 * (X - T).natAbs ≤ (m * B).natAbs) (hA : 0 ≤ A) (hB : 0 ≤ B) (hS : S.natAbs ≤ A.natAbs) (hT : T.natAbs ≤ B.natAbs) (hk : k ≤ 200) (hm : m ≤ 200) (k0 : 0 < k) (m0 : 0 < m) (hV : Nst (U + X) V) :
    4503599627370496 * (V - (S + T)).natAbs ≤ (((k + m : Nat) : Int) * (A + B)).natAbs := by
  have e := nst_err hV
  have a1 : (k : Int) * A ≤ 200 * A := Int.mul_le_mul_of_nonneg_right (by omega) hA
  have a2 : (m : Int) * B ≤ 200 * B := Int.mul_le_mul_of_nonneg_right (by omega) hB
  have a3 : 0 ≤ (k : Int) * A := Int.mul_nonneg (by omega) hA
  have a4 : 0 ≤ (m : Int) * B := Int.mul_nonneg (by omega) hB
  have a5 := Int.mul_le_mul_of_nonneg_right (show (1 : Int) ≤ k by omega) hB
  have a6 := Int.mul_le_mul_of_nonneg_right (show (1 : Int) ≤ m by omega) hA
  rw [Int.one_mul] at a5 a6
  rw [show (((k + m : Nat) : Int) * (A + B)) = (k : Int) * A + (k : Int) * B + ((m : Int) * A + (m : Int) * B) by rw [Int.natCast_add, Int.add_mul, Int.mul_add, Int.mul_add]]
  generalize (k : Int) * A = kA at *
  generalize (k : Int) * B = kB at *
  generalize (m : Int) * A = mA at *
  generalize (m : Int) * B = mB at *
  have b1 : (U - S).natAbs ≤ A.natAbs := by omega
  have b2 : (X - T).natAbs ≤ B.natAbs := by omega
  have b3 : (U + X).natAbs ≤ 2 * A.natAbs + 2 * B.natAbs := by omega
  have b4 : 4503599627370496 * (V - (U + X)).natAbs ≤ A.natAbs + B.natAbs := by omega
  have b5 : (V - (S + T)).natAbs ≤ (V - (U + X)).natAbs + (U - S).natAbs + (X - T).natAbs := by omega
  omega
theorem fin_not {x : Nat} (h : finB x = true) : nanB x = false := rung_nan (by have := fin_rung h; omega)
theorem toO_fin {x : Nat} (h : finB x = true) : toO x = some x := by unfold toO; rw [fin_not h]; rfl
/-- The sum in order: a float that is finite has lost little. -/
theorem naive_err : ∀ (n : Nat) (l : List Nat), l.length = n → n ≤ 200 → FW l → l.all finB = true → ∀ v, naiveO l = some v → v < 18446744073709551616 ∧ nanB v = false ∧ (finB v = true → 4503599627370496 * (vI v - lv l).natAbs ≤ ((n : Int) * la l).natAbs)
  | 0, l, hl, _, _, _, v, hv => by
    have e : l = [] := List.eq_nil_of_length_eq_zero hl
    subst e
    have e2 : v = 0 := (Option.some.inj hv).symm
    subst e2
    exact ⟨by omega, by decide, fun _ => by decide⟩
  | n + 1, l, hl, hn, hF, hf, v, hv => by
    obtain ⟨m, x, rfl⟩ : ∃ m x, l = m ++ [x] := ⟨l.dropLast, l.getLast (fun c => by rw [c] at hl; simp at hl), (List.dropLast_concat_getLast _).symm⟩
    have hlm : m.length = n := by simpa using hl
    have hFm : FW m := fun z hz => hF z (List.mem_append_left _ hz)
    have hx : x < 18446744073709551616 := hF x (by simp)
    rw [List.all_append, Bool.and_eq_true] at hf
    have fx : finB x = true := by simpa using hf.2
    rw [naive_snoc, toO_fin fx] at hv
    cases hu : naiveO m with
    | none => rw [hu] at hv; cases hv
    | some u =>
      rw [hu] at hv
      have hv : floatBits .add .f64 u x = some v := hv
      obtain ⟨i1, i2, i3⟩ := naive_err n m hlm (by omega) hFm hf.1 u hu
      have hw := op_word (op := .add) (Or.inl rfl) hv
      refine ⟨hw.1, rung_nan hw.2, fun fv => ?_⟩
      obtain ⟨fu, _⟩ := add_parts i1 i2 hx (fin_not fx) hv fv
      have hN := add_nst i1 hx fu fx hv fv
      rw [lv_app, la_app]
      have e1 : lv [x] = vI x := by simp [lv]
      have e2 : la [x] = (val (rung x) : Int) := by simp [la]
      rw [e1, e2]
      by_cases c : n = 0
      · have em : m = [] := List.eq_nil_of_length_eq_zero (by omega)
        subst em
        have e0 : u = 0 := (Option.some.inj hu).symm
        subst e0
        have z0 : vI 0 = 0 := by decide
        rw [z0, Int.zero_add] at hN
        have := nst_self (vI_rep x) hN
        rw [this, show lv [] = 0 from rfl, Int.zero_add, Int.sub_self]
        simp
      · have hs := vI_size x
        have := err_step (k := n) (m := 1) (X := vI x) (T := vI x) (B := (val (rung x) : Int)) (i3 fu) (by rw [Int.sub_self]; simp) (la_pos m) (by omega) (lv_la m) (by omega) (by omega) (by omega) (by omega) (by omega) hN
        exact this
/-- The sum by halves likewise. -/
theorem pair_err : ∀ (n : Nat) (l : List Nat), l.length ≤ n → l.length ≤ 200 → FW l → l.all finB = true → ∀ v, pairF n l = some v → v < 18446744073709551616 ∧ nanB v = false ∧ (finB v = true → 4503599627370496 * (vI v - lv l).natAbs ≤ ((l.length : Int) * la l).natAbs)
  | 0, l, hl, _, _, _, v, hv => by
    have e : l = [] := List.eq_nil_of_length_eq_zero (by omega)
    subst e
    have e2 : v = 0 := (Option.some.inj hv).symm
    subst e2
    exact ⟨by omega, by decide, fun _ => by decide⟩
  | n + 1, [], _, _, _, _, v, hv => by
    have e2 : v = 0 := (Option.some.inj hv).symm
    subst e2
    exact ⟨by omega, by decide, fun _ => by decide⟩
  | n + 1, [x], _, _, hF, hf, v, hv => by
    have fx : finB x = true := by simpa using hf
    have hv : toO x = some v := hv
    rw [toO_fin fx] at hv
    have e2 : x = v := Option.some.inj hv
    subst e2
    refine ⟨hF x (by simp), fin_not fx, fun _ => ?_⟩
    rw [show lv [x] = vI x by simp [lv], Int.sub_self]; simp
  | n + 1, x :: y :: t, hl, hn, hF, hf, v, hv => by
    obtain ⟨l, el⟩ : ∃ l, x :: y :: t = l := ⟨_, rfl⟩
    have hv : opO .add (pairF n ((x :: y :: t).take ((x :: y :: t).length / 2))) (pairF n ((x :: y :: t).drop ((x :: y :: t).length / 2))) = some v := hv
    have h2 : 2 ≤ l.length := by rw [← el]; simp
    rw [el] at hv hl hn hF hf ⊢
    clear el
    obtain ⟨h, hh⟩ : ∃ h, l.length / 2 = h := ⟨_, rfl⟩
    rw [hh] at hv
    have l1 : (l.take h).length = h := by rw [List.length_take]; omega
    have l2 : (l.drop h).length = l.length - h := List.length_drop
    have F1 : FW (l.take h) := hF.take h
    have F2 : FW (l.drop h) := hF.drop h
    have f12 : (l.take h ++ l.drop h).all finB = true := by rw [List.take_append_drop]; exact hf
    rw [List.all_append, Bool.and_eq_true] at f12
    cases hu : pairF n (l.take h) with
    | none => rw [hu] at hv; cases hv
    | some u =>
      cases hz : pairF n (l.drop h) with
      | none => rw [hu, hz] at hv; cases hv
      | some z =>
        rw [hu, hz] at hv
        have hv : floatBits .add .f64 u z = some v := hv
        obtain ⟨i1, i2, i3⟩ := pair_err n _ (by omega) (by omega) F1 f12.1 u hu
        obtain ⟨j1, j2, j3⟩ := pair_err n _ (by omega) (by omega) F2 f12.2 z hz
        have hw := op_word (op := .add) (Or.inl rfl) hv
        refine ⟨hw.1, rung_nan hw.2, fun fv => ?_⟩
        obtain ⟨fu, fz⟩ := add_parts i1 i2 j1 j2 hv fv
        have hN := add_nst i1 j1 fu fz hv fv
        have i3 := i3 fu
        have j3 := j3 fz
        rw [l1] at i3
        rw [l2] at j3
        have := err_step (k := h) (m := l.length - h) i3 j3 (la_pos _) (la_pos _) (lv_la _) (lv_la _) (by omega) (by omega) (by omega) (by omega) hN
        rw [← lv_app, ← la_app, List.take_append_drop, show h + (l.length - h) = l.length by omega] at this
        exact this
end Go.Proofs.YtlkmmfmnggejlaaDoor

namespace Go.Proofs.YtlkmmfmnggejlaaDoor
open Go.RowKit

theorem cw_all : (List.range 201).all (fun n => Nat.beq (val (rung (cW n))) (n * 2 ^ 1022) && (!sgn (cW n) && finB (cW n))) = true := by kernel_rfl
theorem cw_at {n : Nat} (h : n ≤ 200) {U : Nat} (hU : U = 1022) : vI (cW n) = (n : Int) * 2 ^ U ∧ finB (cW n) = true ∧ val (rung (cW n)) = n * 2 ^ U := by
  have := List.all_eq_true.1 cw_all n (List.mem_range.2 (by omega))
  simp only [Bool.and_eq_true, Bool.not_eq_true'] at this
  obtain ⟨h1, h2, h3⟩ := this
  have h1 := Nat.eq_of_beq_eq_true h1
  rw [← hU] at h1
  refine ⟨?_, h3, h1⟩
  unfold vI
  rw [h2, h1]
  show ((n * 2 ^ U : Nat) : Int) = _
  rw [Int.natCast_mul, pw_cast]
theorem bound_up {n s b : Nat} (hn : n ≤ 200) (hs : s ≤ infW) (hc : cW n < 18446744073709551616) (h : mulO (cW n) s 2 = some b) (fb : finB b = true) : s < infW ∧ (n : Int) * vI s ≤ 4503599627370496 * vI b := by
  obtain ⟨U, hU⟩ : ∃ U : Nat, U = 1022 := ⟨_, rfl⟩
  obtain ⟨e1, f1, e3⟩ := cw_at hn hU
  generalize cW n = C at *
  unfold infW at *
  by_cases c : s < 9218868437227405312
  · refine ⟨c, ?_⟩
    have fs : finB s = true := by unfold finB; rw [rung_small (by omega)]; exact decide_eq_true c
    have es : vI s = (val s : Int) := vI_pos (by unfold infW; omega)
    by_cases z : rung C = 0 ∨ rung s = 0
    · have zz : (n : Int) * vI s = 0 := by
        rcases z with z | z
        · rw [z, val_zero] at e3
          have : n = 0 := by
            rcases Nat.mul_eq_zero.1 e3.symm with g | g
            · exact g
            · have := Nat.two_pow_pos U; omega
          rw [this]; simp
        · rw [vI_nil1 z, Int.mul_zero]
      have sp : (someB C && someB s) = false := by
        unfold someB
        rcases z with z | z <;> rw [z] <;> simp
      unfold mulO at h
      rw [sp] at h
      have hb := (mul_nought hc (by omega) f1 fs z h).1
      rw [zz, vI_nil1 hb]; omega
    · have sa : someB C = true := by unfold someB; rw [f1]; simp only [Bool.true_and]; simpa using fun g => z (Or.inl g)
      have sb : someB s = true := by unfold someB; rw [fs]; simp only [Bool.true_and]; simpa using fun g => z (Or.inr g)
      unfold mulO at h
      rw [sa, sb] at h
      have h : stepF (pQ C s) (pS C s) 2 = b := Option.some.inj h
      rw [mul_fu 2 hc (by omega) sa sb] at h
      have p1 : 0 < vI C := by
        have := (vI_sign (fun g => z (Or.inl g))).1
        rw [e1] at this ⊢
        have h0 : 0 ≤ (n : Int) * 2 ^ U := Int.mul_nonneg (by omega) (Int.le_of_lt (pw_pos U))
        omega
      have p2 : 0 < vI s := by
        have := (vI_sign (fun g => z (Or.inr g))).1
        omega
      have hX : 0 < vI C * vI s := Int.mul_pos p1 p2
      have hne : vI C * vI s ≠ 0 := by omega
      rw [fuV_pos 2 hX] at h
      obtain ⟨r1, r2, r3, _⟩ := rg_up (fuK_near hne) (fu_units hne)
      rw [h] at r1 r2 r3
      have hb : b < 9218868437227405312 := by
        unfold finB at fb
        rw [rung_small (by omega)] at fb
        simpa using fb
      have r3 := r3 hb
      have eb : vI b = (val b : Int) := vI_pos (by unfold infW; omega)
      rw [show kV = twP + puH from rfl, Nat.pow_add, ← Nat.mul_assoc] at r3
      have r4 := Nat.le_of_mul_le_mul_right r3 (Nat.two_pow_pos puH)
      rw [e1, es, Int.natAbs_mul, Int.natAbs_mul, pw_abs] at r4
      have r5 : n * val s * 2 ^ U ≤ val b * 4503599627370496 * 2 ^ U := by
        have k1 : (n : Int).natAbs * 2 ^ U * (val s : Int).natAbs = n * val s * 2 ^ U := by
          rw [Int.natAbs_natCast, Int.natAbs_natCast, Nat.mul_right_comm]
        rw [k1, show twP = 52 + U by rw [hU]; rfl, Nat.pow_add, ← Nat.mul_assoc] at r4
        exact r4
      have r6 := Nat.le_of_mul_le_mul_right r5 (Nat.two_pow_pos U)
      rw [es, eb, ← Int.natCast_mul]
      generalize n * val s = z at *
      generalize val b = y at *
      omega
  · exfalso
    have e : s = 9218868437227405312 := by omega
    subst e
    have rs : Ieee.double.read 9218868437227405312 = .infinity false := by kernel_rfl
    have sp : (someB C && someB 9218868437227405312) = false := by rw [show someB 9218868437227405312 = false by decide, Bool.and_false]
    unfold mulO at h
    rw [sp] at h
    have h : floatBits .mul .f64 C 9218868437227405312 = some b := h
    rw [(fbits_map C _).2.2.1, read_fin hc f1, rs] at h
    simp only [Ieee.Datum.product] at h
    by_cases x0 : mg (rung C) = 0
    · rw [if_pos x0] at h; cases h
    · rw [if_neg x0] at h
      have h := Option.some.inj h
      have h : Ieee.double.word (false ^^ sgn C) 9218868437227405312 = b := h
      have := word_rung (false ^^ sgn C) (show 9218868437227405312 < 9223372036854775808 by omega)
      unfold finB at fb
      rw [← h, this.1] at fb
      simp at fb
end Go.Proofs.YtlkmmfmnggejlaaDoor

namespace Go.Proofs.YtlkmmfmnggejlaaDoor
open Go.RowKit

/-- What Near hands back of finite floats. -/
def GaveNear (w : World) (xs : List Nat) (e : Ending) (w' : World) : Prop :=
  ∃ v b s, NR (naiveO xs) v ∧ NR (nrO xs xs.length) s ∧ NR (mulO (cW xs.length) s 2) b ∧ (((finB v && finB b) = true ∧ e = .returned (.tuple #[.float .f64 v, .float .f64 b, .int .i64 0])) ∨ ((finB v && finB b) = false ∧ e = .returned (.tuple #[.float .f64 0, .float .f64 0, .int .i64 6]))) ∧ Below w.heap.size w w'
set_option maxHeartbeats 1000000 in
theorem near_not (xs : List Nat) (ao : Option Addr) (cap : Nat) (w : World) (hr : GRow w ao xs) (hF : FW xs) (hn : xs.length ≤ 4096) (hf : xs.all finB = false) :
    Calls Tryd.prog 23 #[.slice ao xs.length cap] w fun e w' => e = .returned (.tuple #[.float .f64 0, .float .f64 0, .int .i64 5]) ∧ w' = w := by
  have ca := allfin_any xs ao cap w hr hF (by omega)
  rw [hf] at ca
  go_enter Tryd.func23, Tryd.ntmps23
  go_wp2_with (go_at_call 45; refine ca.mono ?_; rintro e wz ⟨rfl, hz⟩; subst wz)
  exact bodyPost_ret (v := .tuple #[.float .f64 0, .float .f64 0, .int .i64 5]) (by simp [results, Tryd.results23, go_sem]) rfl ⟨rfl, rfl⟩
set_option maxRecDepth 100000 in
set_option maxHeartbeats 2000000 in
theorem near_fin (xs : List Nat) (ao : Option Addr) (cap : Nat) (w : World) (hT : TabW w) (hr : GRow w ao xs) (hF : FW xs) (hn : xs.length ≤ 4096) (hf : xs.all finB = true) :
    Calls Tryd.prog 23 #[.slice ao xs.length cap] w (GaveNear w xs) := by
  have ca := allfin_any xs ao cap w hr hF (by omega)
  rw [hf] at ca
  have cn := fun W h => naive_any xs ao cap W h hF (by omega)
  obtain ⟨m1, _, m3⟩ := cOk_at hn
  have hmul := fun w => run_float_arith (P := Tryd.prog) w .mul 22 .f64 _ _ _ m1
  have hbm := fun s (hs : s < 18446744073709551616) W h => rmul_all (cW xs.length) s 2 m3 hs W h
  have hcv := conv64
  have n1 : FloatKind.f64 = FloatKind.f64 := rfl
  obtain ⟨C, hC⟩ : ∃ C, cW xs.length = C := ⟨_, rfl⟩
  have HC : Hid (cW xs.length = C) := hC
  rw [hC] at m1 m3 hmul hbm
  clear hC
  clear m1 m3 n1
  go_enter Tryd.func23, Tryd.ntmps23
  go_upto_region 4 with (go_at_call 45; refine ca.mono ?_; rintro e wz ⟨rfl, hz⟩; subst wz)
  go_wp2
  go_loopg [5, 6, 15] xs.length (fun g s _ i wr => ∃ k r : Nat, k ≤ xs.length ∧ g = xs.length - k ∧ s = .float .f64 r ∧ i = .int .i64 k ∧ Hid (NR (nrO xs k) r) ∧ Hid (Below w.heap.size w wr))
  case atStart => exact ⟨0, 0, Nat.zero_le _, rfl, rfl, rfl, (show NR (nrO xs 0) 0 from ⟨by omega, rfl⟩), Below.refl _ _⟩
  case round =>
    obtain ⟨k, r, hk, hg, rfl, rfl, hN, hB⟩ := hrel
    have HG : Hid (gk = xs.length - k) := hg
    clear hg
    by_cases hlt : k < xs.length
    · rcases hr.below hB.out with h | ⟨b, off, rfl, hc⟩
      · omega
      · have g1 := hc k hlt
        have hx := hF.at hlt
        have hns := fun r2 h => nrO_step (xs := xs) (k := k) (r := r2) hN.out h
        have hst := fun W => padd_up r (rung (xs.getD k 0)) hN.out.1 (vrung64 _) W
        generalize xs.getD k 0 = x at *
        have cb := abs_any x hx
        have i1 : (k : Int) < (xs.length : Int) := by omega
        clear hc cn hbm hmul
        go_wp2_with (first
          | (go_at_call 14; refine (cb _).mono ?_; rintro e w' ⟨rfl, rfl⟩)
          | (go_at_call 53; refine (hst _).mono ?_; rintro e w2 ⟨r2, rfl, h2, b2⟩; have h2 := hns _ h2))
        go_roundg (xs.length - (k + 1))
        case measure => rw [HG.out]; omega
        case rel => exact ⟨k + 1, r2, by omega, rfl, rfl, by go_num, h2, hB.out.trans (b2.mono hB.out.size)⟩
    · have ek : k = xs.length := by omega
      subst ek
      have hbr := hbm r hN.out.1
      have HN := hN.out
      have B0 := hB.out
      have i1 : ¬ (xs.length : Int) < (xs.length : Int) := by omega
      clear hbm hN hB
      have cf := fun (v b : Nat) (hv : v < 18446744073709551616) (hb : b < 18446744073709551616) (W : World) => allfin_any [v, b] (some ⟨W.heap.size, 0, none⟩) 2 _ (two_row W v b 22) (fun x hx => by simp at hx; omega) (by simp)
      simp only [List.length_cons, List.length_nil, Nat.zero_add, Nat.reduceAdd, List.all_cons, List.all_nil, Bool.and_true] at cf
      go_upto_region 12 with (first
        | (go_at_call 27; refine (cn _ (hr.below B0)).mono ?_; rintro e w2 ⟨v, rfl, hv, b2⟩; have B2 := B0.trans (b2.mono B0.size))
        | (go_at_call 54; refine (hbr _ (tabW_below hT B2)).mono ?_; rintro e w3 ⟨b, rfl, hb, b3⟩; have B3 := B2.trans (b3.mono B2.size)))
      have cf2 := fun W => cf v b hv.1 hb.1 W
      clear cf
      obtain ⟨q, hq⟩ : ∃ q, (finB v && finB b) = q := ⟨_, rfl⟩
      have HQ : Hid ((finB v && finB b) = q) := hq
      rw [hq] at cf2
      clear hq
      cases q
      · go_wp2_with (go_at_call 45; refine (cf2 _).mono ?_; rintro e w4 ⟨rfl, rfl⟩)
        exact bodyPost_ret (v := .tuple #[.float .f64 0, .float .f64 0, .int .i64 6]) (by simp [results, Tryd.results23, go_sem]) rfl ⟨v, b, r, hv, HN, by rw [HC.out]; exact hb, Or.inr ⟨HQ.out, rfl⟩, B3.alloc B3.size _⟩
      · go_wp2_with (go_at_call 45; refine (cf2 _).mono ?_; rintro e w4 ⟨rfl, rfl⟩)
        exact bodyPost_ret (v := .tuple #[.float .f64 v, .float .f64 b, .int .i64 0]) (by simp [results, Tryd.results23, go_sem]) rfl ⟨v, b, r, hv, HN, by rw [HC.out]; exact hb, Or.inl ⟨HQ.out, rfl⟩, B3.alloc B3.size _⟩
end Go.Proofs.YtlkmmfmnggejlaaDoor
