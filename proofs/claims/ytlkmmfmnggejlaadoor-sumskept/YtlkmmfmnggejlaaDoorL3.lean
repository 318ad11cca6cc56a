/- SumsKept: with what is lost kept, the sum is as near the exact one as the chapter says. -/
import Derived.Test.YtlkmmfmnggejlaaDoorL2
import Derived.Test.YtlkmmfmnggejlaaDoorK2
import Derived.Test.YtlkmmfmnggejlaaDoorX1
import Derived.Test.YtlkmmfmnggejlaaDoorBs
import Derived.Test.YtlkmmfmnggejlaaDoorZ8
import Derived.Test.YtlkmmfmnggejlaaDoorEl
import Derived.Test.YtlkmmfmnggejlaaDoorZ4
import Derived.Test.YtlkmmfmnggejlaaDoorZv
import Derived.Orders
import Derived.RowKit
namespace Go.Proofs.YtlkmmfmnggejlaaDoor
open Go.RowKit

theorem ge_sizes {u v : Nat} (fu : finB u = true) (fv : finB v = true) : geO (some u) (some v) = decide (rung v ≤ rung u) := by
  have lu := rung_lt u
  have lw := rung_lt v
  have au := fin_rung fu
  have av := fin_rung fv
  have nu : nanB (rung u) = false := rung_nan (by rw [rung_small lu]; omega)
  have nv : nanB (rung v) = false := rung_nan (by rw [rung_small lw]; omega)
  have pu : place (rung u) = rung u := by unfold place; rw [(rung_pos lu).1, (rung_pos lu).2]; rfl
  have pv : place (rung v) = rung v := by unfold place; rw [(rung_pos lw).1, (rung_pos lw).2]; rfl
  show (FloatKind.f64.format.order (rung u) (rung v) == some .gt || FloatKind.f64.format.order (rung u) (rung v) == some .eq) = _
  rcases Nat.lt_trichotomy (rung u) (rung v) with c | c | c
  · rw [ord_lt (by omega) (by omega) nu nv (by omega), decide_eq_false (by omega)]; rfl
  · rw [ord_eq (by omega) (by omega) nu nv (by omega), decide_eq_true (by omega)]; rfl
  · rw [ord_gt (by omega) (by omega) nu nv (by omega), decide_eq_true (by omega)]; rfl
theorem la_one (x : Nat) : la [x] = (val (rung x) : Int) := by simp [la]
theorem lv_one (x : Nat) : lv [x] = vI x := by simp [lv]
/-- What a sum of the greater and the lesser has lost is a float, and is told. -/
theorem keeps_step {g l t : Nat} {W : Nat} (hW : IsTop W) (hg : g < 18446744073709551616) (hl : l < 18446744073709551616) (ht : t < 18446744073709551616) (fg : finB g = true) (fl : finB l = true) (ft : finB t = true) (hle : (vI l).natAbs ≤ (vI g).natAbs) (hN : Nst (vI g + vI l) (vI t)) (hb : 4 * (vI g).natAbs ≤ W) :
    ∃ e, opO .add (opO .sub (some g) (some t)) (some l) = some e ∧ e < 18446744073709551616 ∧ finB e = true ∧ vI e = vI g + vI l - vI t := by
  have n1 := hN.2 _ (vI_rep g)
  have d1 := rep_neg (ts_dif (vI_rep g) (vI_rep l) hle hN)
  have d2 := ts_err (vI_rep g) (vI_rep l) hle hN
  obtain ⟨y, ey, Fy⟩ := sub_fl hg ht fg ft hW (by omega)
  have vy := nst_self (by rw [show vI g - vI t = -(vI t - vI g) by omega]; exact d1) Fy.2.2.1
  obtain ⟨e, ee, Fe⟩ := add_fl Fy.1 hl Fy.2.1 fl hW (by omega)
  have ve := nst_self (by rw [vy, show vI g - vI t + vI l = vI g + vI l - vI t by omega]; exact d2) Fe.2.2.1
  refine ⟨e, ?_, Fe.1, Fe.2.1, by omega⟩
  show opO .add (floatBits .sub .f64 g t) (some l) = some e
  rw [ey]
  exact ee
set_option maxHeartbeats 4000000 in
/-- All that is known of the sum so far, and of what was lost. -/
theorem kept_inv {W : Nat} (hW : IsTop W) : ∀ (n : Nat) (l : List Nat), l.length = n → n ≤ 200 → FW l → l.all finB = true → 64 * (la l).natAbs ≤ W →
    ∃ s c E, keptP l = (some s, some c) ∧ naiveO l = some s ∧ s < 18446744073709551616 ∧ finB s = true ∧ naiveO E = some c ∧ c < 18446744073709551616 ∧ finB c = true ∧ E.length = n ∧ FW E ∧ E.all finB = true ∧ lv l = vI s + lv E ∧ 40564819207303340847894502572032 * la E ≤ (n : Int) * ((4503599627370496 + n) * la l)
  | 0, l, hl, _, _, _, _ => by
    have e : l = [] := List.eq_nil_of_length_eq_zero hl
    subst e
    exact ⟨0, 0, [], rfl, rfl, by omega, by decide, rfl, by omega, by decide, rfl, (fun _ h => by cases h), rfl, by decide, by simp [la]⟩
  | n + 1, l, hl, hn, hF, hf, hA => by
    obtain ⟨m, x, rfl⟩ : ∃ m x, l = m ++ [x] := ⟨l.dropLast, l.getLast (fun c => by rw [c] at hl; simp at hl), (List.dropLast_concat_getLast _).symm⟩
    have hlm : m.length = n := by simpa using hl
    have hFm : FW m := fun z hz => hF z (List.mem_append_left _ hz)
    have hx : x < 18446744073709551616 := hF x (by simp)
    rw [List.all_append, Bool.and_eq_true] at hf
    have fx : finB x = true := by simpa using hf.2
    rw [la_app, la_one] at hA ⊢
    have pm := la_pos m
    have sx := vI_size x
    obtain ⟨s, c, E, k1, k2, k3, k4, k5, k6, k7, k8, k9, k10, k11, k12⟩ := kept_inv hW n m hlm (by omega) hFm hf.1 (by omega)
    have r1 := (naive_err n m hlm (by omega) hFm hf.1 s k2).2.2 k4
    have r2 := (naive_err n E k8 (by omega) k9 k10 c k5).2.2 k7
    have pE := la_pos E
    have q1 := lv_la m
    have q2 := lv_la E
    -- bounds
    have b1 : (n : Int) * la m ≤ 200 * la m := Int.mul_le_mul_of_nonneg_right (by omega) pm
    have b2 : (n : Int) * la E ≤ 200 * la E := Int.mul_le_mul_of_nonneg_right (by omega) pE
    have b3 : 0 ≤ (n : Int) * la m := Int.mul_nonneg (by omega) pm
    have b4 : 0 ≤ (n : Int) * la E := Int.mul_nonneg (by omega) pE
    have c1 : (vI s - lv m).natAbs ≤ (la m).natAbs := by omega
    have c2 : (vI c - lv E).natAbs ≤ (la E).natAbs := by omega
    have c3 : la E ≤ la m := by
      have g1 : (n : Int) * ((4503599627370496 + n) * la m) ≤ 200 * ((4503599627370496 + 200) * la m) := by
        have g2 : (4503599627370496 + (n : Int)) * la m ≤ (4503599627370496 + 200) * la m := Int.mul_le_mul_of_nonneg_right (by omega) pm
        have g3 : 0 ≤ (4503599627370496 + (n : Int)) * la m := Int.mul_nonneg (by omega) pm
        have g4 : (n : Int) * ((4503599627370496 + n) * la m) ≤ 200 * ((4503599627370496 + n) * la m) := Int.mul_le_mul_of_nonneg_right (by omega) g3
        omega
      omega
    obtain ⟨t, et, Ft⟩ := add_fl k3 hx k4 fx hW (by omega)
    have hN := Ft.2.2.1
    have e53 := nst_err hN
    have hle : ∃ e, (keptS (some s, some c) x).2 = opO .add (some c) (some e) ∧ e < 18446744073709551616 ∧ finB e = true ∧ vI e = vI s + vI x - vI t := by
      have h1 : opO .add (some s) (toO x) = some t := by rw [toO_fin fx]; exact et
      by_cases h : rung x ≤ rung s
      · have hv : (vI x).natAbs ≤ (vI s).natAbs := by rw [vI_size, vI_size]; exact val_le_D h
        obtain ⟨e, e1, e2, e3, e4⟩ := keeps_step hW k3 hx Ft.1 k4 fx Ft.2.1 hv hN (by omega)
        refine ⟨e, ?_, e2, e3, e4⟩
        rw [kept_ge (by rw [toO_fin fx, ge_sizes k4 fx]; exact decide_eq_true h)]
        show opO .add (some c) (opO .add (opO .sub (some s) (opO .add (some s) (toO x))) (toO x)) = _
        rw [h1, toO_fin fx, e1]
      · have hv : (vI s).natAbs ≤ (vI x).natAbs := by rw [vI_size, vI_size]; exact val_le_D (by omega)
        have hN' : Nst (vI x + vI s) (vI t) := by rw [Int.add_comm]; exact hN
        obtain ⟨e, e1, e2, e3, e4⟩ := keeps_step hW hx k3 Ft.1 fx k4 Ft.2.1 hv hN' (by omega)
        refine ⟨e, ?_, e2, e3, by omega⟩
        rw [kept_lt (by rw [toO_fin fx, ge_sizes k4 fx]; exact decide_eq_false h)]
        show opO .add (some c) (opO .add (opO .sub (toO x) (opO .add (some s) (toO x))) (some s)) = _
        rw [h1, toO_fin fx, e1]
    obtain ⟨e, e1, e2, e3, e4⟩ := hle
    have se := vI_size e
    have e52 : 4503599627370496 * (vI s + vI x).natAbs ≤ (4503599627370496 * (la m + (val (rung x) : Int)) + (n : Int) * la m).natAbs := by omega
    have eb : 40564819207303340847894502572032 * (val (rung e) : Int) ≤ 4503599627370496 * (la m + (val (rung x) : Int)) + (n : Int) * la m := by omega
    obtain ⟨c', ec, Fc⟩ := add_fl k6 e2 k7 e3 hW (by omega)
    refine ⟨t, c', E ++ [e], ?_, ?_, Ft.1, Ft.2.1, ?_, Fc.1, Fc.2.1, by simp [k8], ?_, ?_, ?_, ?_⟩
    · rw [kept_snoc, k1]
      refine Prod.ext ?_ ?_
      · rw [kept_one, toO_fin fx]; exact et
      · rw [e1]; exact ec
    · rw [naive_snoc, k2, toO_fin fx]; exact et
    · rw [naive_snoc, k5, toO_fin e3]; exact ec
    · intro z hz
      rcases List.mem_append.1 hz with g | g
      · exact k9 z g
      · simp only [List.mem_singleton] at g
        rw [g]; exact e2
    · rw [List.all_append, k10]
      simp [e3]
    · rw [lv_app, lv_app, lv_one, lv_one, k11]
      omega
    · rw [la_app, la_one]
      have f1 : (n : Int) * ((4503599627370496 + n) * la m) ≤ (n : Int) * ((4503599627370496 + n) * (la m + (val (rung x) : Int))) := by
        refine Int.mul_le_mul_of_nonneg_left (Int.mul_le_mul_of_nonneg_left (by omega) (by omega)) (by omega)
      have f2 : 4503599627370496 * (la m + (val (rung x) : Int)) + (n : Int) * la m ≤ (4503599627370496 + n) * (la m + (val (rung x) : Int)) := by
        rw [Int.add_mul]
        have : (n : Int) * la m ≤ (n : Int) * (la m + (val (rung x) : Int)) := Int.mul_le_mul_of_nonneg_left (by omega) (by omega)
        omega
      have f3 : (((n + 1 : Nat) : Int)) * ((4503599627370496 + ((n + 1 : Nat) : Int)) * (la m + (val (rung x) : Int))) = (n : Int) * ((4503599627370496 + n) * (la m + (val (rung x) : Int))) + (n : Int) * (la m + (val (rung x) : Int)) + ((4503599627370496 + n) * (la m + (val (rung x) : Int)) + (la m + (val (rung x) : Int))) := by
        rw [Int.natCast_add, show ((1 : Nat) : Int) = 1 from rfl]
        generalize la m + (val (rung x) : Int) = A
        rw [Int.add_mul (n : Int) 1, Int.one_mul, ← Int.add_assoc, Int.add_mul (4503599627370496 + (n : Int)) 1 A, Int.one_mul, Int.mul_add]
      have f4 : 0 ≤ (n : Int) * (la m + (val (rung x) : Int)) := Int.mul_nonneg (by omega) (by omega)
      rw [f3]
      generalize (n : Int) * ((4503599627370496 + n) * (la m + (val (rung x) : Int))) = u1 at *
      generalize (4503599627370496 + (n : Int)) * (la m + (val (rung x) : Int)) = u2 at *
      generalize (n : Int) * ((4503599627370496 + n) * la m) = u3 at *
      generalize (n : Int) * (la m + (val (rung x) : Int)) = u4 at *
      generalize (n : Int) * la m = u5 at *
      omega
end Go.Proofs.YtlkmmfmnggejlaaDoor

namespace Go.Proofs.YtlkmmfmnggejlaaDoor
open Go.RowKit

theorem kept_final {W : Nat} (hW : IsTop W) {l : List Nat} {n : Nat} (hl : l.length = n) (hn : n ≤ 200) (hF : FW l) (hf : l.all finB = true) (hA : 64 * (la l).natAbs ≤ W) :
    ∃ K, keptO l = some K ∧ K < 18446744073709551616 ∧ finB K = true ∧ 20282409603651670423947251286016 * (vI K - lv l).natAbs ≤ 4503599627370496 * (lv l).natAbs + ((n : Int) * ((n : Int) * la l)).natAbs := by
  obtain ⟨s, c, E, k1, k2, k3, k4, k5, k6, k7, k8, k9, k10, k11, k12⟩ := kept_inv hW n l hl hn hF hf hA
  have r1 := (naive_err n l hl hn hF hf s k2).2.2 k4
  have r2 := (naive_err n E k8 hn k9 k10 c k5).2.2 k7
  have pl := la_pos l
  have pE := la_pos E
  have q1 := lv_la l
  have q2 := lv_la E
  have b1 : (n : Int) * la l ≤ 200 * la l := Int.mul_le_mul_of_nonneg_right (by omega) pl
  have b2 : (n : Int) * la E ≤ 200 * la E := Int.mul_le_mul_of_nonneg_right (by omega) pE
  have b3 : 0 ≤ (n : Int) * la l := Int.mul_nonneg (by omega) pl
  have b4 : 0 ≤ (n : Int) * la E := Int.mul_nonneg (by omega) pE
  have c3 : la E ≤ la l := by
    have g2 : (4503599627370496 + (n : Int)) * la l ≤ (4503599627370496 + 200) * la l := Int.mul_le_mul_of_nonneg_right (by omega) pl
    have g3 : 0 ≤ (4503599627370496 + (n : Int)) * la l := Int.mul_nonneg (by omega) pl
    have g4 : (n : Int) * ((4503599627370496 + n) * la l) ≤ 200 * ((4503599627370496 + n) * la l) := Int.mul_le_mul_of_nonneg_right (by omega) g3
    omega
  have c1 : (vI s - lv l).natAbs ≤ (la l).natAbs := by omega
  have c2 : (vI c - lv E).natAbs ≤ (la E).natAbs := by omega
  obtain ⟨K, eK, FK⟩ := add_fl k3 k6 k4 k7 hW (by omega)
  have e53 := nst_err FK.2.2.1
  refine ⟨K, ?_, FK.1, FK.2.1, ?_⟩
  · unfold keptO
    rw [k1]
    exact eK
  · have d1 : (n : Int) * (40564819207303340847894502572032 * la E) ≤ (n : Int) * ((n : Int) * ((4503599627370496 + n) * la l)) := Int.mul_le_mul_of_nonneg_left k12 (by omega)
    have d2 : (n : Int) * (40564819207303340847894502572032 * la E) = 40564819207303340847894502572032 * ((n : Int) * la E) := by rw [← Int.mul_assoc, Int.mul_comm (n : Int) 40564819207303340847894502572032, Int.mul_assoc]
    have d3 : (n : Int) * ((n : Int) * ((4503599627370496 + n) * la l)) = (4503599627370496 + n) * ((n : Int) * ((n : Int) * la l)) := by
      rw [Int.mul_left_comm (n : Int) (4503599627370496 + (n : Int)) (la l), Int.mul_left_comm (n : Int) (4503599627370496 + (n : Int)) ((n : Int) * la l)]
    have d4 : 0 ≤ (n : Int) * ((n : Int) * la l) := Int.mul_nonneg (by omega) b3
    have d5 : (4503599627370496 + (n : Int)) * ((n : Int) * ((n : Int) * la l)) ≤ (4503599627370496 + 200) * ((n : Int) * ((n : Int) * la l)) := Int.mul_le_mul_of_nonneg_right (by omega) d4
    rw [d2, d3] at d1
    generalize (n : Int) * ((n : Int) * la l) = N at *
    generalize (4503599627370496 + (n : Int)) * N = M at *
    generalize (n : Int) * la E = nE at *
    clear b1 b2 b3 r1 c1 k12 d2 d3 q1 q2
    have f1 : (vI K - lv l).natAbs ≤ (vI K - (vI s + vI c)).natAbs + (vI c - lv E).natAbs := by omega
    have f2 : (vI s + vI c).natAbs ≤ (lv l).natAbs + (vI c - lv E).natAbs := by omega
    omega
theorem fd_down {D : Dy} {X : Int} {k : Nat} (h : Fd D (X * 2 ^ k)) (hb : bl X.natAbs ≤ 16384) : scaleD D (-(k : Int)) = (dz X, 0) := by
  have hp : (2 : Int) ^ puH ≠ 0 := by have := pw_pos puH; omega
  have hk : (2 : Int) ^ k ≠ 0 := by have := pw_pos k; omega
  have hz : ∀ {D : Dy}, D.mag.length = 0 → qd D = 0 := fun {D} e => by
    have e1 : vl D.mag = 0 := by
      have : D.mag = [] := List.length_eq_zero_iff.1 e
      rw [this]; rfl
    have e2 : sv D = 0 := by have := sv_abs D; omega
    unfold qd; rw [e2, Int.zero_mul]
  by_cases hX : X = 0
  · have h0 : qd D = 0 := by rw [h.2.2, hX, Int.zero_mul, Int.zero_mul]
    have hm : D.mag.length = 0 := by
      rcases right_cases h.1 with g | ⟨g0, _, _, g3, _⟩
      · rw [g]; rfl
      · exfalso
        have hv := vl_ne_last g0 g3
        unfold qd at h0
        rcases Int.mul_eq_zero.1 h0 with g | g
        · have := sv_abs D; omega
        · have := pw_pos (D.exp + 65536).toNat; omega
    unfold scaleD
    rw [if_neg (by rw [h.1]; simp), if_pos hm, hX]
    show _ = ((nrm 0 (-2148)).1, 0)
    unfold nrm
    rw [if_pos rfl]
  · have h0 : D.mag.length ≠ 0 := fun e => by
      have e3 := hz e
      rw [h.2.2] at e3
      rcases Int.mul_eq_zero.1 e3 with g | g
      · rcases Int.mul_eq_zero.1 g with g | g
        · exact hX g
        · exact hk g
      · exact hp g
    rw [← scale_norm h.2.1 h.1 h0 (-(k : Int))]
    unfold normD
    have e1 : sv ⟨D.neg, lo (vl D.mag), D.exp + -(k : Int)⟩ = sv D := by unfold sv; rw [vl_lo]
    rw [e1]
    have hx := right_exp h.1
    have e2 : nrm X (-2148) = nrm (X * 2 ^ k * 2 ^ puH) (-65536 - k) := by
      rw [shift_nrm, shift_nrm, show (-65536 : Int) - k + (puH : Nat) + k = -2148 by unfold puH; omega]
    show nrm (sv D) (D.exp + -(k : Int)) = _
    rw [← dz_told hb, e2, ← h.2.2]
    unfold qd
    rw [shift_nrm]
    congr 1
    omega
/-- Numbers below 2^960, at most 200 of them. -/
theorem small_all {l : List Nat} (hn : l.length ≤ 200) (h : (l.all fun x => decide (rung x < 8930638061075693568)) = true) {W : Nat} (hW : IsTop W) : l.all finB = true ∧ 64 * (la l).natAbs ≤ W := by
  have h1 : ∀ x, x ∈ l → rung x < 8930638061075693568 := fun x hx => by simpa using List.all_eq_true.1 h x hx
  refine ⟨?_, ?_⟩
  · rw [List.all_eq_true]
    intro x hx
    have := h1 x hx
    unfold finB
    exact decide_eq_true (by omega)
  · obtain ⟨U, hU⟩ : ∃ U : Nat, U = 1982 := ⟨_, rfl⟩
    have e1 := (d_val_kept (U := U) (k := 4503599627370496) (by omega) (Or.inr (by omega))).1
    rw [show U * 4503599627370496 + 4503599627370496 = 8930638061075693568 by omega] at e1
    have hla : ∀ m : List Nat, (∀ x, x ∈ m → rung x < 8930638061075693568) → la m ≤ (m.length : Int) * ((4503599627370496 * 2 ^ U : Nat) : Int) := by
      intro m
      induction m with
      | nil => intro _; simp [la]
      | cons y m ih =>
        intro hm
        have i1 := ih (fun x hx => hm x (List.mem_cons_of_mem _ hx))
        have i2 := val_le_D (Nat.le_of_lt (hm y (by simp)))
        rw [e1] at i2
        rw [la, List.length_cons, Int.natCast_add, Int.add_mul]
        generalize 4503599627370496 * 2 ^ U = q at *
        show _ ≤ (m.length : Int) * (q : Int) + 1 * (q : Int)
        omega
    have h2 := hla l h1
    have h3 : (l.length : Int) * ((4503599627370496 * 2 ^ U : Nat) : Int) ≤ 200 * ((4503599627370496 * 2 ^ U : Nat) : Int) := Int.mul_le_mul_of_nonneg_right (by omega) (by omega)
    have h4 := top_val (V := U + 108) (by omega)
    have h5 := la_pos l
    unfold IsTop at hW
    rw [← hW, Nat.pow_add] at h4
    generalize (l.length : Int) * ((4503599627370496 * 2 ^ U : Nat) : Int) = z at *
    have hp := Nat.two_pow_pos U
    generalize (2 : Nat) ^ U = q at *
    omega
end Go.Proofs.YtlkmmfmnggejlaaDoor

namespace Go.Proofs.YtlkmmfmnggejlaaDoor
open Go.RowKit

/-- The limbs lie behind two boxes. -/
def Nob (Q : Nat) (D : Dy) (a : Option Addr) : Prop := ∀ b off, a = some ⟨b, off, none⟩ → D.mag.length ≠ 0 → Q + 1 < b
theorem nob_frs {Q B : Nat} {D : Dy} {a : Option Addr} (h : Frs B a) (hB : Q + 1 < B) : Nob Q D a := fun b off e _ => by
  have := h _ e
  simp only at this
  omega
/-- What lies in memory on the way. -/
structure SumS (w wr : World) (D Z : Dy) (a : Option Addr) (c : Nat) (b : Option Addr) (d Q : Nat) : Prop where
  bel : Below w.heap.size w wr
  h2 : Hd wr w.heap.size dy0 none 0
  z2 : Fzr wr w.heap.size
  h3 : Hd wr (w.heap.size + 1) dy0 none 0
  z3 : Fzr wr (w.heap.size + 1)
  h5 : Hd wr Q D a c
  z5 : Fzr wr Q
  h6 : Hd wr (Q + 1) Z b d
  z6 : Fzr wr (Q + 1)
  n5 : Nob Q D a
  n6 : Nob Q Z b
  lt : w.heap.size + 1 < Q
theorem SumS.top {w wr : World} {D Z : Dy} {a : Option Addr} {c : Nat} {b : Option Addr} {d Q : Nat} (h : SumS w wr D Z a c b d Q) : Q + 1 < wr.heap.size := World.block_lt_of_cell? wr _ h.h6.c0
theorem SumS.below {w wr w2 : World} {D Z : Dy} {a : Option Addr} {c : Nat} {b : Option Addr} {d Q : Nat} (h : SumS w wr D Z a c b d Q) (hb : Below wr.heap.size wr w2) : SumS w w2 D Z a c b d Q := by
  have l := h.top
  have m := h.lt
  exact ⟨h.bel.trans (hb.mono h.bel.size), h.h2.below hb, h.z2.below (by omega) hb, h.h3.below hb, h.z3.below (by omega) hb, h.h5.below hb, h.z5.below (by omega) hb, h.h6.below hb, h.z6.below l hb, h.n5, h.n6, m⟩
theorem SumS.put5 {w wr : World} {D Z E : Dy} {a a' : Option Addr} {c c' : Nat} {b : Option Addr} {d Q : Nat} (h : SumS w wr D Z a c b d Q) (hr : LRow wr a' E.mag) (hn : Nob Q E a') :
    SumS w (((wr.setCell ⟨Q, 0, none⟩ (.bool E.neg)).setCell ⟨Q, 1, none⟩ (.slice a' E.mag.length c')).setCell ⟨Q, 2, none⟩ (.int .i64 E.exp)) E Z a' c' b d Q := by
  have m := h.lt
  have f6 : ∀ b' off, b = some ⟨b', off, none⟩ → Z.mag.length ≠ 0 → b' ≠ Q := fun b' off e l => by have := h.n6 b' off e l; omega
  exact ⟨((h.bel.setCell (p := ⟨Q, 0, none⟩) (by show w.heap.size ≤ Q; omega) _).setCell (p := ⟨Q, 1, none⟩) (by show w.heap.size ≤ Q; omega) _).setCell (p := ⟨Q, 2, none⟩) (by show w.heap.size ≤ Q; omega) _,
    h.h2.oth (by omega) _ _ _ (Or.inl rfl), h.z2.set _ _ _ _, h.h3.oth (by omega) _ _ _ (Or.inl rfl), h.z3.set _ _ _ _,
    put3n h.h5 hr (fun b' off e l => by have := hn b' off e l; omega), h.z5.set _ _ _ _,
    h.h6.oth (by omega) _ _ _ (((h.h6.row.setCell _ f6).setCell _ f6).setCell _ f6), h.z6.set _ _ _ _, hn, h.n6, m⟩
theorem SumS.put6 {w wr : World} {D Z E : Dy} {a b' : Option Addr} {c d' : Nat} {b : Option Addr} {d Q : Nat} (h : SumS w wr D Z a c b d Q) (hr : LRow wr b' E.mag) (hn : Nob Q E b') :
    SumS w (((wr.setCell ⟨Q + 1, 0, none⟩ (.bool E.neg)).setCell ⟨Q + 1, 1, none⟩ (.slice b' E.mag.length d')).setCell ⟨Q + 1, 2, none⟩ (.int .i64 E.exp)) D E a c b' d' Q := by
  have m := h.lt
  have f5 : ∀ b' off, a = some ⟨b', off, none⟩ → D.mag.length ≠ 0 → b' ≠ Q + 1 := fun b' off e l => by have := h.n5 b' off e l; omega
  exact ⟨((h.bel.setCell (p := ⟨Q + 1, 0, none⟩) (by show w.heap.size ≤ Q + 1; omega) _).setCell (p := ⟨Q + 1, 1, none⟩) (by show w.heap.size ≤ Q + 1; omega) _).setCell (p := ⟨Q + 1, 2, none⟩) (by show w.heap.size ≤ Q + 1; omega) _,
    h.h2.oth (by omega) _ _ _ (Or.inl rfl), h.z2.set _ _ _ _, h.h3.oth (by omega) _ _ _ (Or.inl rfl), h.z3.set _ _ _ _,
    h.h5.oth (by omega) _ _ _ (((h.h5.row.setCell _ f5).setCell _ f5).setCell _ f5), h.z5.set _ _ _ _,
    put3n h.h6 hr (fun b' off e l => by have := hn b' off e l; omega), h.z6.set _ _ _ _, h.n5, hn, m⟩
/-- What sum of the laws hands back of finite floats. -/
def GaveSum (w : World) (D Z : Dy) (e : Ending) (w' : World) : Prop :=
  ∃ a c b d, e = .returned (.tuple #[.agg #[.bool D.neg, .slice a D.mag.length c, .int .i64 D.exp], .agg #[.bool Z.neg, .slice b Z.mag.length d, .int .i64 Z.exp], .bool true]) ∧ LRow w' a D.mag ∧ LRow w' b Z.mag ∧ Below w.heap.size w w'
theorem int_zero : intD 0 = dy0 := by kernel_rfl
/-- The beginning: four boxes. -/
theorem SumS.new {w w1 : World} {a b : Option Addr} {c d : Nat} (hb : Below ((w.alloc (.cells #[.bool false, .slice none 0 0, .int .i64 0] 31)).alloc (.cells #[.bool false, .slice none 0 0, .int .i64 0] 31)).heap.size ((w.alloc (.cells #[.bool false, .slice none 0 0, .int .i64 0] 31)).alloc (.cells #[.bool false, .slice none 0 0, .int .i64 0] 31)) w1) :
    SumS w ((w1.alloc (.cells #[.bool false, .slice a 0 c, .int .i64 0] 31)).alloc (.cells #[.bool false, .slice b 0 d, .int .i64 0] 31)) dy0 dy0 a c b d w1.heap.size := by
  have s2 : ((w.alloc (.cells #[.bool false, .slice none 0 0, .int .i64 0] 31)).alloc (.cells #[.bool false, .slice none 0 0, .int .i64 0] 31)).heap.size = w.heap.size + 2 := by go_simp
  have hs := hb.size
  rw [s2] at hs
  have a1 := (Hd.new (w := w) (d := dy0) (ao := none) (cap := 0) (Or.inl rfl)).below (bal _ (.cells #[.bool false, .slice none 0 0, .int .i64 0] 31))
  have a2 := Hd.new (w := w.alloc (.cells #[.bool false, .slice none 0 0, .int .i64 0] 31)) (d := dy0) (ao := none) (cap := 0) (Or.inl rfl)
  have b1 := (fz_new w (.bool false) (.slice none 0 0) (.int .i64 0)).below (by simp) (bal _ (.cells #[.bool false, .slice none 0 0, .int .i64 0] 31))
  have b2 := fz_new (w.alloc (.cells #[.bool false, .slice none 0 0, .int .i64 0] 31)) (.bool false) (.slice none 0 0) (.int .i64 0)
  have e1 : (w.alloc (.cells #[.bool false, .slice none 0 0, .int .i64 0] 31)).heap.size = w.heap.size + 1 := by go_simp
  rw [e1] at a2 b2
  have a5 := (Hd.new (w := w1) (d := dy0) (ao := a) (cap := c) (Or.inl rfl)).below (bal _ (.cells #[.bool false, .slice b 0 d, .int .i64 0] 31))
  have a6 := Hd.new (w := w1.alloc (.cells #[.bool false, .slice a 0 c, .int .i64 0] 31)) (d := dy0) (ao := b) (cap := d) (Or.inl rfl)
  have b5 := (fz_new w1 (.bool false) (.slice a 0 c) (.int .i64 0)).below (by simp) (bal _ (.cells #[.bool false, .slice b 0 d, .int .i64 0] 31))
  have b6 := fz_new (w1.alloc (.cells #[.bool false, .slice a 0 c, .int .i64 0] 31)) (.bool false) (.slice b 0 d) (.int .i64 0)
  have e2 : (w1.alloc (.cells #[.bool false, .slice a 0 c, .int .i64 0] 31)).heap.size = w1.heap.size + 1 := by go_simp
  rw [e2] at a6 b6
  have B0 : Below w.heap.size w w1 := (bth3 (bal w _) (bal _ _)).trans (hb.mono (by omega))
  have BB := bth3 (bal w1 (.cells #[.bool false, .slice a 0 c, .int .i64 0] 31)) (bal _ (.cells #[.bool false, .slice b 0 d, .int .i64 0] 31))
  exact ⟨bth3 B0 BB, (a1.below hb).below BB, (b1.below (by omega) hb).below (by omega) BB, (a2.below hb).below BB, (b2.below (by omega) hb).below (by omega) BB, a5, b5, a6, b6, fun _ _ _ h => absurd rfl h, fun _ _ _ h => absurd rfl h, by omega⟩
set_option maxRecDepth 100000 in
set_option maxHeartbeats 8000000 in
theorem lsum_core (xs : List Nat) (ao : Option Addr) (cap : Nat) (Dx Dz T U : Nat → Dy) (w : World) (hT : TabW w) (hr : GRow w ao xs) (hF : FW xs) (hn : xs.length ≤ 1125899906842624)
    (hO : ∀ k, k < xs.length → ofD (xs.getD k 0) = (Dx k, 0) ∧ Lm (Dx k).mag ∧ ofD (rung (xs.getD k 0)) = (Dz k, 0) ∧ Lm (Dz k).mag) (hT0 : T 0 = dy0) (hU0 : U 0 = dy0)
    (hA : ∀ k, k < xs.length → addD (T k) (Dx k) = (T (k + 1), 0) ∧ addD (U k) (Dz k) = (U (k + 1), 0)) (hL : ∀ k, k ≤ xs.length → Lm (T k).mag ∧ Lm (U k).mag) :
    Calls Tryd.prog 10 #[.slice ao xs.length cap] w (GaveSum w (T xs.length) (U xs.length)) := by
  have oi := fun W h => Int_any 0 (by decide) (by decide) W h
  rw [int_zero] at oi
  go_enter Tryd.func10, Tryd.ntmps10
  go_upto_region 2 with (first
    | (go_at_call 30; refine (oi _ hT1).mono ?_; rintro e w2 ⟨a2, c2, rfl, _, _, x2⟩)
    | (go_at_call 30; refine (oi _ (tabW_alloc (tabW_alloc hT _) _)).mono ?_; rintro e w1 ⟨a1, c1, rfl, _, _, x1⟩; have hT1 := tabW_below (tabW_alloc (tabW_alloc hT _) _) x1))
  have S0 : SumS w ((w2.alloc (.cells #[.bool dy0.neg, .slice a1 dy0.mag.length c1, .int .i64 dy0.exp] 31)).alloc (.cells #[.bool dy0.neg, .slice a2 dy0.mag.length c2, .int .i64 dy0.exp] 31)) dy0 dy0 a1 c1 a2 c2 w2.heap.size := SumS.new (a := a1) (c := c1) (b := a2) (d := c2) (bth3 x1 x2)
  clear x1 x2 hT1 oi
  generalize (w2.alloc (.cells #[.bool dy0.neg, .slice a1 dy0.mag.length c1, .int .i64 dy0.exp] 31)).alloc (.cells #[.bool dy0.neg, .slice a2 dy0.mag.length c2, .int .i64 dy0.exp] 31) = W0 at *
  generalize w2.heap.size = Q at *
  go_wp2
  go_loopg [7] xs.length (fun g i wr => ∃ k : Nat, ∃ a c b d, k ≤ xs.length ∧ g = xs.length - k ∧ i = .int .i64 k ∧ Hid (SumS w wr (T k) (U k) a c b d Q))
  case atStart => exact ⟨0, a1, c1, a2, c2, Nat.zero_le _, rfl, rfl, by rw [hT0, hU0]; exact S0⟩
  case round =>
    obtain ⟨k, a, c, b, d, hk, hg, rfl, hS⟩ := hrel
    have HG : Hid (gk = xs.length - k) := hg
    clear hg S0
    by_cases hlt : k < xs.length
    · have S0 := hS.out
      rcases hr.below S0.bel with h | ⟨bx, off, rfl, hc⟩
      · omega
      · have T0 := tabW_below hT S0.bel
        have g1 := hc k hlt
        have gB := World.block_lt_of_cell? wr _ g1
        have hx := hF.at hlt
        obtain ⟨o1, o2, o3, o4⟩ := hO k hlt
        obtain ⟨q1, q2⟩ := hA k hlt
        obtain ⟨q3, q4⟩ := hL k hk
        have i1 : (k : Int) < (xs.length : Int) := by omega
        generalize xs.getD k 0 = x at *
        have ox := fun W h => Of_any x hx W h
        have oy := fun W h => Of_any (rung x) (Nat.lt_of_lt_of_le (rung_lt x) (by decide)) W h
        have ob := abs_any x hx
        rw [o1] at ox
        rw [o3] at oy
        have oa := fun ao bo cap bcap w h1 h2 h3 => Add_any (T k) (Dx k) ao bo cap bcap w h1 h2 q3 o2 h3
        have oc := fun ao bo cap bcap w h1 h2 h3 => Add_any (U k) (Dz k) ao bo cap bcap w h1 h2 q4 o4 h3
        rw [q1] at oa
        rw [q2] at oc
        clear hc hO hA hL hF o1 o3 q1 q2
        generalize Dx k = X at *
        generalize Dz k = Y at *
        generalize T k = D at *
        generalize U k = Z at *
        obtain ⟨D', hD'⟩ : ∃ D', T (k + 1) = D' := ⟨_, rfl⟩
        obtain ⟨Z', hZ'⟩ : ∃ Z', U (k + 1) = Z' := ⟨_, rfl⟩
        rw [hD'] at oa
        rw [hZ'] at oc
        have HDZ : Hid (T (k + 1) = D' ∧ U (k + 1) = Z') := ⟨hD', hZ'⟩
        clear hD' hZ'
        go_upto_region 6 with (go_at_call 16; refine (ox _ T0).mono ?_; rintro e w3 ⟨ax, cx, rfl, rx, fx, b3⟩)
        obtain ⟨V1, hV1⟩ : ∃ V, w3.alloc (.cells #[.bool X.neg, .slice ax X.mag.length cx, .int .i64 X.exp] 31) = V := ⟨_, rfl⟩
        have B1 : Below wr.heap.size wr V1 := by rw [← hV1]; exact bth3 b3 (bal _ _)
        have HX : Hd V1 w3.heap.size X ax cx := by rw [← hV1]; exact Hd.new rx
        rw [hV1]
        clear hV1 rx fx b3 ox
        have S1 := S0.below B1
        have T1 := tabW_below T0 B1
        have g2 : V1.cell? ⟨bx, off + k, none⟩ = some (.float .f64 x) := by rw [B1.cell gB]; exact g1
        clear S0 T0 g1 gB B1
        generalize w3.heap.size = PX at *
        go_upto_region 7 with (first
          | (go_at_call 14; refine (ob _).mono ?_; rintro e w' ⟨rfl, hw'⟩; subst w')
          | (go_at_call 16; refine (oy _ T1).mono ?_; rintro e w4 ⟨ay, cy, rfl, ry, fy, b4⟩))
        obtain ⟨V2, hV2⟩ : ∃ V, w4.alloc (.cells #[.bool Y.neg, .slice ay Y.mag.length cy, .int .i64 Y.exp] 31) = V := ⟨_, rfl⟩
        have B2 : Below V1.heap.size V1 V2 := by rw [← hV2]; exact bth3 b4 (bal _ _)
        have HY : Hd V2 w4.heap.size Y ay cy := by rw [← hV2]; exact Hd.new ry
        rw [hV2]
        have lY : Q + 1 < w4.heap.size := Nat.lt_of_lt_of_le S1.top b4.size
        have nY : Nob Q Y ay := nob_frs fy S1.top
        clear hV2 ry fy b4 oy ob
        have S2 := S1.below B2
        have T2 := tabW_below T1 B2
        replace HX := HX.below B2
        clear S1 T1 g2 B2
        generalize w4.heap.size = PY at *
        obtain ⟨p0, p1, p2, pr⟩ := id S2.h5
        obtain ⟨x0, x1, x2, xr⟩ := id HX
        have tp := S2.top
        go_upto_region 10 with (go_at_call 32; refine (oa _ _ _ _ _ pr xr T2).mono ?_; rintro e w5 ⟨ae, ce, rfl, re, fe, b5⟩; have S3 := S2.below b5; obtain ⟨p0, p1, p2, _⟩ := id S3.h5; obtain ⟨f0, f1, f2⟩ := id S3.z5)
        have S4 := S3.put5 (c' := ce) re (nob_frs fe tp)
        replace HY := HY.below b5
        have fq : ∀ b' off, ay = some ⟨b', off, none⟩ → Y.mag.length ≠ 0 → b' ≠ Q := fun b' off e l => by have := nY b' off e l; omega
        have HY4 := HY.oth (q := Q) (by omega) (.bool D'.neg) (.slice ae D'.mag.length ce) (.int .i64 D'.exp) (((HY.row.setCell _ fq).setCell _ fq).setCell _ fq)
        generalize ((w5.setCell ⟨Q, 0, none⟩ (.bool D'.neg)).setCell ⟨Q, 1, none⟩ (.slice ae D'.mag.length ce)).setCell ⟨Q, 2, none⟩ (.int .i64 D'.exp) = V3 at *
        have T4 := tabW_below hT S4.bel
        have tp4 := S4.top
        clear p0 p1 p2 pr x0 x1 x2 xr f0 f1 f2 S2 S3 T2 b5 HX HY fq re fe oa tp
        obtain ⟨p0, p1, p2, pr⟩ := id S4.h6
        obtain ⟨x0, x1, x2, xr⟩ := id HY4
        go_upto_region 11 with (go_at_call 32; refine (oc _ _ _ _ _ pr xr T4).mono ?_; rintro e w6 ⟨ag, cg, rfl, rg, fg, b6⟩; have S5 := S4.below b6; obtain ⟨p0, p1, p2, _⟩ := id S5.h6; obtain ⟨f0, f1, f2⟩ := id S5.z6)
        have S6 := S5.put6 (d' := cg) rg (nob_frs fg tp4)
        generalize ((w6.setCell ⟨Q + 1, 0, none⟩ (.bool Z'.neg)).setCell ⟨Q + 1, 1, none⟩ (.slice ag Z'.mag.length cg)).setCell ⟨Q + 1, 2, none⟩ (.int .i64 Z'.exp) = V4 at *
        clear p0 p1 p2 pr x0 x1 x2 xr f0 f1 f2 S4 S5 T4 b6 HY4 rg fg oc tp4 hT
        go_wp2
        go_roundg (xs.length - (k + 1))
        case measure => rw [HG.out]; omega
        case rel => exact ⟨k + 1, _, _, _, _, by omega, rfl, by go_num, by rw [HDZ.out.1, HDZ.out.2]; exact S6⟩
    · have ek : k = xs.length := by omega
      subst ek
      have S0 := hS.out
      have i1 : ¬ (xs.length : Int) < (xs.length : Int) := by omega
      clear hO hA hL hF hS
      obtain ⟨p0, p1, p2, pr⟩ := id S0.h5
      obtain ⟨x0, x1, x2, xr⟩ := id S0.h6
      obtain ⟨s0, s1, s2, _⟩ := id S0.h2
      obtain ⟨t0, t1, t2, _⟩ := id S0.h3
      obtain ⟨f0, f1, f2⟩ := id S0.z2
      obtain ⟨e0, e1, e2⟩ := id S0.z3
      have l1 := S0.lt
      have m1 : ¬ w.heap.size = w.heap.size + 1 := by omega
      have m2 : ¬ w.heap.size + 1 = w.heap.size := by omega
      have m3 : ¬ w.heap.size = Q := by omega
      have m4 : ¬ w.heap.size + 1 = Q := by omega
      have m5 : ¬ w.heap.size = Q + 1 := by omega
      have m6 : ¬ w.heap.size + 1 = Q + 1 := by omega
      have m7 : ¬ Q = w.heap.size := by omega
      have m8 : ¬ Q = w.heap.size + 1 := by omega
      have m9 : ¬ Q + 1 = w.heap.size := by omega
      have m0 : ¬ Q + 1 = w.heap.size + 1 := by omega
      generalize T xs.length = D at *
      generalize U xs.length = Z at *
      go_upto_region 13 with fail
      go_region
      all_goals
        go_wp2
        refine bodyPost_ret (v := .tuple #[.agg #[.bool D.neg, .slice a D.mag.length c, .int .i64 D.exp], .agg #[.bool Z.neg, .slice b Z.mag.length d, .int .i64 Z.exp], .bool true]) (by simp [results, Tryd.results10, go_sem, s0, s1, s2, t0, t1, t2]) rfl ⟨_, _, _, _, rfl, ?_, ?_, ?_⟩
        · have fa : ∀ b' off, a = some ⟨b', off, none⟩ → D.mag.length ≠ 0 → b' ≠ w.heap.size := fun b' off e l => by have := S0.n5 b' off e l; omega
          have fb : ∀ b' off, a = some ⟨b', off, none⟩ → D.mag.length ≠ 0 → b' ≠ w.heap.size + 1 := fun b' off e l => by have := S0.n5 b' off e l; omega
          refine LRow.below ?_ (Below.refl _ _).drew
          exact (((((pr.setCell _ fa).setCell _ fa).setCell _ fa).setCell _ fb).setCell _ fb).setCell _ fb
        · have fa : ∀ b' off, b = some ⟨b', off, none⟩ → Z.mag.length ≠ 0 → b' ≠ w.heap.size := fun b' off e l => by have := S0.n6 b' off e l; omega
          have fb : ∀ b' off, b = some ⟨b', off, none⟩ → Z.mag.length ≠ 0 → b' ≠ w.heap.size + 1 := fun b' off e l => by have := S0.n6 b' off e l; omega
          refine LRow.below ?_ (Below.refl _ _).drew
          exact (((((xr.setCell _ fa).setCell _ fa).setCell _ fa).setCell _ fb).setCell _ fb).setCell _ fb
        · have h0 : ∀ i, w.heap.size ≤ (⟨w.heap.size, i, none⟩ : Addr).block := fun _ => Nat.le_refl _
          have h1 : ∀ i, w.heap.size ≤ (⟨w.heap.size + 1, i, none⟩ : Addr).block := fun _ => Nat.le_succ _
          refine Below.drew ?_
          exact ((((((S0.bel.setCell (h0 0) _).setCell (h0 1) _).setCell (h0 2) _).setCell (h1 0) _).setCell (h1 1) _).setCell (h1 2) _)
theorem sizes_fin {xs : List Nat} (h : xs.all finB = true) : (xs.map rung).all finB = true := by
  rw [List.all_eq_true] at h ⊢
  intro y hy
  obtain ⟨x, hx, rfl⟩ := List.mem_map.1 hy
  have := fin_rung (h x hx)
  unfold finB
  rw [rung_small (rung_lt x)]
  exact decide_eq_true this
theorem sizes_at {xs : List Nat} {k : Nat} (hk : k < xs.length) : (xs.map rung).getD k 0 = rung (xs.getD k 0) := by
  simp [List.getD_eq_getElem?_getD, hk]
theorem lsum_fin (xs : List Nat) (ao : Option Addr) (cap : Nat) (w : World) (hT : TabW w) (hr : GRow w ao xs) (hF : FW xs) (hn : xs.length ≤ 1125899906842624) (hf : xs.all finB = true) :
    Calls Tryd.prog 10 #[.slice ao xs.length cap] w (GaveSum w (sD xs xs.length) (sD (xs.map rung) xs.length)) := by
  have hz := sizes_fin hf
  have hl : (xs.map rung).length = xs.length := List.length_map _
  refine lsum_core xs ao cap (fun k => (ofD (xs.getD k 0)).1) (fun k => (ofD (rung (xs.getD k 0))).1) (sD xs) (sD (xs.map rung)) w hT hr hF hn (fun k hk => ?_) (by unfold sD sI nrm; rw [if_pos rfl]) (by unfold sD sI nrm; rw [if_pos rfl]) (fun k hk => ⟨sD_add hf hn hk, ?_⟩) (fun k _ => ⟨nrm_lm _ _, nrm_lm _ _⟩)
  · obtain ⟨b1, _, b3, _⟩ := fq_qd (fin_at hf hk) (K := 64462) rfl
    obtain ⟨d1, _, d3, _⟩ := fq_qd (fin_at hz (by rw [hl]; exact hk)) (K := 64462) rfl
    rw [sizes_at hk] at d1 d3
    exact ⟨by rw [← b1], b3, by rw [← d1], d3⟩
  · rw [← sizes_at hk]
    exact sD_add hz (by rw [hl]; exact hn) (by rw [hl]; exact hk)
end Go.Proofs.YtlkmmfmnggejlaaDoor

namespace Go.Proofs.YtlkmmfmnggejlaaDoor
open Go.RowKit

/-- What sum of the laws hands back where a float is not finite. -/
def GaveNo (w : World) (e : Ending) (w' : World) : Prop :=
  ∃ (D : Dy) (a : Option Addr) (c : Nat), e = .returned (.tuple #[.agg #[.bool D.neg, .slice a D.mag.length c, .int .i64 D.exp], .agg #[.bool D.neg, .slice a D.mag.length c, .int .i64 D.exp], .bool false]) ∧ Below w.heap.size w w'
set_option maxRecDepth 100000 in
set_option maxHeartbeats 8000000 in
theorem lsum_stop (xs : List Nat) (ao : Option Addr) (cap K : Nat) (Dx Dz T U : Nat → Dy) (w : World) (hT : TabW w) (hr : GRow w ao xs) (hF : FW xs) (hn : xs.length ≤ 1125899906842624) (hK : K < xs.length)
    (hO : ∀ k, k < K → ofD (xs.getD k 0) = (Dx k, 0) ∧ Lm (Dx k).mag ∧ ofD (rung (xs.getD k 0)) = (Dz k, 0) ∧ Lm (Dz k).mag) (hT0 : T 0 = dy0) (hU0 : U 0 = dy0)
    (hA : ∀ k, k < K → addD (T k) (Dx k) = (T (k + 1), 0) ∧ addD (U k) (Dz k) = (U (k + 1), 0)) (hL : ∀ k, k ≤ K → Lm (T k).mag ∧ Lm (U k).mag) (hno : ofD (xs.getD K 0) = (dy0, 5) ∧ ofD (rung (xs.getD K 0)) = (dy0, 5)) :
    Calls Tryd.prog 10 #[.slice ao xs.length cap] w (GaveNo w) := by
  have oi := fun W h => Int_any 0 (by decide) (by decide) W h
  rw [int_zero] at oi
  go_enter Tryd.func10, Tryd.ntmps10
  go_upto_region 2 with (first
    | (go_at_call 30; refine (oi _ hT1).mono ?_; rintro e w2 ⟨a2, c2, rfl, _, _, x2⟩)
    | (go_at_call 30; refine (oi _ (tabW_alloc (tabW_alloc hT _) _)).mono ?_; rintro e w1 ⟨a1, c1, rfl, _, _, x1⟩; have hT1 := tabW_below (tabW_alloc (tabW_alloc hT _) _) x1))
  have S0 : SumS w ((w2.alloc (.cells #[.bool dy0.neg, .slice a1 dy0.mag.length c1, .int .i64 dy0.exp] 31)).alloc (.cells #[.bool dy0.neg, .slice a2 dy0.mag.length c2, .int .i64 dy0.exp] 31)) dy0 dy0 a1 c1 a2 c2 w2.heap.size := SumS.new (a := a1) (c := c1) (b := a2) (d := c2) (bth3 x1 x2)
  clear x1 x2 hT1 oi
  generalize (w2.alloc (.cells #[.bool dy0.neg, .slice a1 dy0.mag.length c1, .int .i64 dy0.exp] 31)).alloc (.cells #[.bool dy0.neg, .slice a2 dy0.mag.length c2, .int .i64 dy0.exp] 31) = W0 at *
  generalize w2.heap.size = Q at *
  go_wp2
  go_loopg [7] xs.length (fun g i wr => ∃ k : Nat, ∃ a c b d, k ≤ K ∧ g = xs.length - k ∧ i = .int .i64 k ∧ Hid (SumS w wr (T k) (U k) a c b d Q))
  case atStart => exact ⟨0, a1, c1, a2, c2, Nat.zero_le _, rfl, rfl, by rw [hT0, hU0]; exact S0⟩
  case round =>
    obtain ⟨k, a, c, b, d, hk, hg, rfl, hS⟩ := hrel
    have HG : Hid (gk = xs.length - k) := hg
    clear hg S0
    by_cases hlt : k < K
    · have S0 := hS.out
      rcases hr.below S0.bel with h | ⟨bx, off, rfl, hc⟩
      · omega
      · have T0 := tabW_below hT S0.bel
        have hlt2 : k < xs.length := by omega
        have g1 := hc k hlt2
        have gB := World.block_lt_of_cell? wr _ g1
        have hx := hF.at hlt2
        obtain ⟨o1, o2, o3, o4⟩ := hO k hlt
        obtain ⟨q1, q2⟩ := hA k hlt
        obtain ⟨q3, q4⟩ := hL k hk
        have i1 : (k : Int) < (xs.length : Int) := by omega
        generalize xs.getD k 0 = x at *
        have ox := fun W h => Of_any x hx W h
        have oy := fun W h => Of_any (rung x) (Nat.lt_of_lt_of_le (rung_lt x) (by decide)) W h
        have ob := abs_any x hx
        rw [o1] at ox
        rw [o3] at oy
        have oa := fun ao bo cap bcap w h1 h2 h3 => Add_any (T k) (Dx k) ao bo cap bcap w h1 h2 q3 o2 h3
        have oc := fun ao bo cap bcap w h1 h2 h3 => Add_any (U k) (Dz k) ao bo cap bcap w h1 h2 q4 o4 h3
        rw [q1] at oa
        rw [q2] at oc
        clear hc hO hA hL hF o1 o3 q1 q2
        generalize Dx k = X at *
        generalize Dz k = Y at *
        generalize T k = D at *
        generalize U k = Z at *
        obtain ⟨D', hD'⟩ : ∃ D', T (k + 1) = D' := ⟨_, rfl⟩
        obtain ⟨Z', hZ'⟩ : ∃ Z', U (k + 1) = Z' := ⟨_, rfl⟩
        rw [hD'] at oa
        rw [hZ'] at oc
        have HDZ : Hid (T (k + 1) = D' ∧ U (k + 1) = Z') := ⟨hD', hZ'⟩
        clear hD' hZ'
        go_upto_region 6 with (go_at_call 16; refine (ox _ T0).mono ?_; rintro e w3 ⟨ax, cx, rfl, rx, fx, b3⟩)
        obtain ⟨V1, hV1⟩ : ∃ V, w3.alloc (.cells #[.bool X.neg, .slice ax X.mag.length cx, .int .i64 X.exp] 31) = V := ⟨_, rfl⟩
        have B1 : Below wr.heap.size wr V1 := by rw [← hV1]; exact bth3 b3 (bal _ _)
        have HX : Hd V1 w3.heap.size X ax cx := by rw [← hV1]; exact Hd.new rx
        rw [hV1]
        clear hV1 rx fx b3 ox
        have S1 := S0.below B1
        have T1 := tabW_below T0 B1
        have g2 : V1.cell? ⟨bx, off + k, none⟩ = some (.float .f64 x) := by rw [B1.cell gB]; exact g1
        clear S0 T0 g1 gB B1
        generalize w3.heap.size = PX at *
        go_upto_region 7 with (first
          | (go_at_call 14; refine (ob _).mono ?_; rintro e w' ⟨rfl, hw'⟩; subst w')
          | (go_at_call 16; refine (oy _ T1).mono ?_; rintro e w4 ⟨ay, cy, rfl, ry, fy, b4⟩))
        obtain ⟨V2, hV2⟩ : ∃ V, w4.alloc (.cells #[.bool Y.neg, .slice ay Y.mag.length cy, .int .i64 Y.exp] 31) = V := ⟨_, rfl⟩
        have B2 : Below V1.heap.size V1 V2 := by rw [← hV2]; exact bth3 b4 (bal _ _)
        have HY : Hd V2 w4.heap.size Y ay cy := by rw [← hV2]; exact Hd.new ry
        rw [hV2]
        have lY : Q + 1 < w4.heap.size := Nat.lt_of_lt_of_le S1.top b4.size
        have nY : Nob Q Y ay := nob_frs fy S1.top
        clear hV2 ry fy b4 oy ob
        have S2 := S1.below B2
        have T2 := tabW_below T1 B2
        replace HX := HX.below B2
        clear S1 T1 g2 B2
        generalize w4.heap.size = PY at *
        obtain ⟨p0, p1, p2, pr⟩ := id S2.h5
        obtain ⟨x0, x1, x2, xr⟩ := id HX
        have tp := S2.top
        go_upto_region 10 with (go_at_call 32; refine (oa _ _ _ _ _ pr xr T2).mono ?_; rintro e w5 ⟨ae, ce, rfl, re, fe, b5⟩; have S3 := S2.below b5; obtain ⟨p0, p1, p2, _⟩ := id S3.h5; obtain ⟨f0, f1, f2⟩ := id S3.z5)
        have S4 := S3.put5 (c' := ce) re (nob_frs fe tp)
        replace HY := HY.below b5
        have fq : ∀ b' off, ay = some ⟨b', off, none⟩ → Y.mag.length ≠ 0 → b' ≠ Q := fun b' off e l => by have := nY b' off e l; omega
        have HY4 := HY.oth (q := Q) (by omega) (.bool D'.neg) (.slice ae D'.mag.length ce) (.int .i64 D'.exp) (((HY.row.setCell _ fq).setCell _ fq).setCell _ fq)
        generalize ((w5.setCell ⟨Q, 0, none⟩ (.bool D'.neg)).setCell ⟨Q, 1, none⟩ (.slice ae D'.mag.length ce)).setCell ⟨Q, 2, none⟩ (.int .i64 D'.exp) = V3 at *
        have T4 := tabW_below hT S4.bel
        have tp4 := S4.top
        clear p0 p1 p2 pr x0 x1 x2 xr f0 f1 f2 S2 S3 T2 b5 HX HY fq re fe oa tp
        obtain ⟨p0, p1, p2, pr⟩ := id S4.h6
        obtain ⟨x0, x1, x2, xr⟩ := id HY4
        go_upto_region 11 with (go_at_call 32; refine (oc _ _ _ _ _ pr xr T4).mono ?_; rintro e w6 ⟨ag, cg, rfl, rg, fg, b6⟩; have S5 := S4.below b6; obtain ⟨p0, p1, p2, _⟩ := id S5.h6; obtain ⟨f0, f1, f2⟩ := id S5.z6)
        have S6 := S5.put6 (d' := cg) rg (nob_frs fg tp4)
        generalize ((w6.setCell ⟨Q + 1, 0, none⟩ (.bool Z'.neg)).setCell ⟨Q + 1, 1, none⟩ (.slice ag Z'.mag.length cg)).setCell ⟨Q + 1, 2, none⟩ (.int .i64 Z'.exp) = V4 at *
        clear p0 p1 p2 pr x0 x1 x2 xr f0 f1 f2 S4 S5 T4 b6 HY4 rg fg oc tp4 hT
        go_wp2
        go_roundg (xs.length - (k + 1))
        case measure => rw [HG.out]; omega
        case rel => exact ⟨k + 1, _, _, _, _, by omega, rfl, by go_num, by rw [HDZ.out.1, HDZ.out.2]; exact S6⟩
    · have ek : k = K := by omega
      subst ek
      have S0 := hS.out
      rcases hr.below S0.bel with h | ⟨bx, off, rfl, hc⟩
      · omega
      · have T0 := tabW_below hT S0.bel
        have g1 := hc k hK
        have gB := World.block_lt_of_cell? wr _ g1
        have hx := hF.at hK
        obtain ⟨o1, o3⟩ := hno
        have i1 : (k : Int) < (xs.length : Int) := by omega
        generalize xs.getD k 0 = x at *
        have ox := fun W h => Of_any x hx W h
        have oy := fun W h => Of_any (rung x) (Nat.lt_of_lt_of_le (rung_lt x) (by decide)) W h
        have ob := abs_any x hx
        rw [o1] at ox
        rw [o3] at oy
        clear hc hO hA hL hF o1 o3
        generalize T k = D at *
        generalize U k = Z at *
        go_upto_region 6 with (go_at_call 16; refine (ox _ T0).mono ?_; rintro e w3 ⟨ax, cx, rfl, rx, fx, b3⟩)
        obtain ⟨V1, hV1⟩ : ∃ V, w3.alloc (.cells #[.bool dy0.neg, .slice ax dy0.mag.length cx, .int .i64 dy0.exp] 31) = V := ⟨_, rfl⟩
        have B1 : Below wr.heap.size wr V1 := by rw [← hV1]; exact bth3 b3 (bal _ _)
        rw [hV1]
        clear hV1 rx fx b3 ox
        have S1 := S0.below B1
        have T1 := tabW_below T0 B1
        have g2 : V1.cell? ⟨bx, off + k, none⟩ = some (.float .f64 x) := by rw [B1.cell gB]; exact g1
        clear S0 T0 g1 gB B1
        generalize w3.heap.size = PX at *
        go_upto_region 7 with (first
          | (go_at_call 14; refine (ob _).mono ?_; rintro e w' ⟨rfl, hw'⟩; subst w')
          | (go_at_call 16; refine (oy _ T1).mono ?_; rintro e w4 ⟨ay, cy, rfl, ry, fy, b4⟩))
        obtain ⟨V2, hV2⟩ : ∃ V, w4.alloc (.cells #[.bool dy0.neg, .slice ay dy0.mag.length cy, .int .i64 dy0.exp] 31) = V := ⟨_, rfl⟩
        have B2 : Below V1.heap.size V1 V2 := by rw [← hV2]; exact bth3 b4 (bal _ _)
        rw [hV2]
        clear hV2 ry fy b4 oy ob
        have S2 := S1.below B2
        clear S1 T1 g2 B2
        generalize w4.heap.size = PY at *
        obtain ⟨p0, p1, p2, pr⟩ := id S2.h5
        obtain ⟨s0, s1, s2, _⟩ := id S2.h2
        obtain ⟨t0, t1, t2, _⟩ := id S2.h3
        obtain ⟨f0, f1, f2⟩ := id S2.z2
        obtain ⟨e0, e1, e2⟩ := id S2.z3
        have l1 := S2.lt
        have m1 : ¬ w.heap.size = w.heap.size + 1 := by omega
        have m2 : ¬ w.heap.size + 1 = w.heap.size := by omega
        have m3 : ¬ w.heap.size = Q := by omega
        have m4 : ¬ w.heap.size + 1 = Q := by omega
        have m7 : ¬ Q = w.heap.size := by omega
        have m8 : ¬ Q = w.heap.size + 1 := by omega
        go_upto_region 8 with fail
        go_region
        all_goals
          go_wp2
          refine bodyPost_ret (v := .tuple #[.agg #[.bool D.neg, .slice a D.mag.length c, .int .i64 D.exp], .agg #[.bool D.neg, .slice a D.mag.length c, .int .i64 D.exp], .bool false]) (by simp [results, Tryd.results10, go_sem, s0, s1, s2, t0, t1, t2]) rfl ⟨_, _, _, rfl, ?_⟩
          have h0 : ∀ i, w.heap.size ≤ (⟨w.heap.size, i, none⟩ : Addr).block := fun _ => Nat.le_refl _
          have h1 : ∀ i, w.heap.size ≤ (⟨w.heap.size + 1, i, none⟩ : Addr).block := fun _ => Nat.le_succ _
          refine Below.drew ?_
          exact ((((((S2.bel.setCell (h0 0) _).setCell (h0 1) _).setCell (h0 2) _).setCell (h1 0) _).setCell (h1 1) _).setCell (h1 2) _)
end Go.Proofs.YtlkmmfmnggejlaaDoor

namespace Go.Proofs.YtlkmmfmnggejlaaDoor
open Go.RowKit

theorem fd_sign {E : Dy} {X : Int} (h : Fd E X) : (signD E).1 = sgI X ∧ (signD E).2 = 0 := by
  unfold signD
  rw [if_pos h.1]
  refine ⟨?_, rfl⟩
  have e := h.2.2
  unfold qd at e
  rw [← sgI_pw X puH, ← e, sgI_pw]
theorem fd_trn {E : Dy} {X : Int} (h : Fd E X) : Fd (trn E) (-X) := ⟨trn_right h.1, h.2.1, by rw [trn_qd h.1, h.2.2, Int.neg_mul]⟩
/-- Two boxes of a function's own: its argument, and what it answers. -/
structure TwoS (w wr : World) (E : Dy) (a : Option Addr) (c : Nat) : Prop where
  bel : Below w.heap.size w wr
  h0 : Hd wr w.heap.size E a c
  z0 : Fzr wr w.heap.size
  h1 : Hd wr (w.heap.size + 1) dy0 none 0
  z1 : Fzr wr (w.heap.size + 1)
theorem TwoS.top {w wr : World} {E : Dy} {a : Option Addr} {c : Nat} (h : TwoS w wr E a c) : w.heap.size + 1 < wr.heap.size := World.block_lt_of_cell? wr _ h.h1.c0
theorem TwoS.below {w wr w2 : World} {E : Dy} {a : Option Addr} {c : Nat} (h : TwoS w wr E a c) (hb : Below wr.heap.size wr w2) : TwoS w w2 E a c := by
  have l := h.top
  exact ⟨h.bel.trans (hb.mono h.bel.size), h.h0.below hb, h.z0.below (by omega) hb, h.h1.below hb, h.z1.below l hb⟩
theorem TwoS.new {w : World} {E : Dy} {a : Option Addr} {c : Nat} (hr : LRow w a E.mag) : TwoS w ((w.alloc (.cells #[.bool E.neg, .slice a E.mag.length c, .int .i64 E.exp] 31)).alloc (.cells #[.bool false, .slice none 0 0, .int .i64 0] 31)) E a c := by
  have a1 := (Hd.new (w := w) (d := E) (ao := a) (cap := c) hr).below (bal _ (.cells #[.bool false, .slice none 0 0, .int .i64 0] 31))
  have b1 := (fz_new w (.bool E.neg) (.slice a E.mag.length c) (.int .i64 E.exp)).below (by simp) (bal _ (.cells #[.bool false, .slice none 0 0, .int .i64 0] 31))
  have a2 := Hd.new (w := w.alloc (.cells #[.bool E.neg, .slice a E.mag.length c, .int .i64 E.exp] 31)) (d := dy0) (ao := none) (cap := 0) (Or.inl rfl)
  have b2 := fz_new (w.alloc (.cells #[.bool E.neg, .slice a E.mag.length c, .int .i64 E.exp] 31)) (.bool false) (.slice none 0 0) (.int .i64 0)
  have e1 : (w.alloc (.cells #[.bool E.neg, .slice a E.mag.length c, .int .i64 E.exp] 31)).heap.size = w.heap.size + 1 := by go_simp
  rw [e1] at a2 b2
  exact ⟨bth3 (bal _ _) (bal _ _), a1, b1, a2, b2⟩
theorem TwoS.put {w wr : World} {E F : Dy} {a b : Option Addr} {c d : Nat} (h : TwoS w wr E a c) (hr : LRow wr b F.mag) (hf : Frs (w.heap.size + 2) b) : TwoS w (((wr.setCell ⟨w.heap.size, 0, none⟩ (.bool F.neg)).setCell ⟨w.heap.size, 1, none⟩ (.slice b F.mag.length d)).setCell ⟨w.heap.size, 2, none⟩ (.int .i64 F.exp)) F b d := by
  exact ⟨((h.bel.setCell (p := ⟨w.heap.size, 0, none⟩) (Nat.le_refl _) _).setCell (p := ⟨w.heap.size, 1, none⟩) (Nat.le_refl _) _).setCell (p := ⟨w.heap.size, 2, none⟩) (Nat.le_refl _) _,
    put3n h.h0 hr (fun b' off e _ => by have := hf _ e; simp only at this; omega), h.z0.set _ _ _ _, h.h1.oth (by omega) _ _ _ (Or.inl rfl), h.z1.set _ _ _ _⟩
theorem set_ret {w wr : World} {F : Dy} {b : Option Addr} {d : Nat} (hb : Below w.heap.size w wr) : Below w.heap.size w (((wr.setCell ⟨w.heap.size + 1, 0, none⟩ (.bool F.neg)).setCell ⟨w.heap.size + 1, 1, none⟩ (.slice b F.mag.length d)).setCell ⟨w.heap.size + 1, 2, none⟩ (.int .i64 F.exp)) :=
  ((hb.setCell (p := ⟨w.heap.size + 1, 0, none⟩) (Nat.le_succ _) _).setCell (p := ⟨w.heap.size + 1, 1, none⟩) (Nat.le_succ _) _).setCell (p := ⟨w.heap.size + 1, 2, none⟩) (Nat.le_succ _) _
theorem row_ret {w wr : World} {F : Dy} {b : Option Addr} {d : Nat} (hr : LRow wr b F.mag) (hn : ∀ b' off, b = some ⟨b', off, none⟩ → F.mag.length ≠ 0 → b' ≠ w.heap.size + 1) : LRow (((wr.setCell ⟨w.heap.size + 1, 0, none⟩ (.bool F.neg)).setCell ⟨w.heap.size + 1, 1, none⟩ (.slice b F.mag.length d)).setCell ⟨w.heap.size + 1, 2, none⟩ (.int .i64 F.exp)) b F.mag := ((hr.setCell _ hn).setCell _ hn).setCell _ hn
/-- A dyad of the number X handed back, and true. -/
def GaveY (w : World) (X : Int) (e : Ending) (w' : World) : Prop :=
  ∃ (F : Dy) (b : Option Addr) (d : Nat), e = .returned (.tuple #[.agg #[.bool F.neg, .slice b F.mag.length d, .int .i64 F.exp], .bool true]) ∧ Fd F X ∧ LRow w' b F.mag ∧ Frs w.heap.size b ∧ Below w.heap.size w w'
/-- The same; its limbs are the argument's, or new. -/
def GaveA1 (w : World) (a : Option Addr) (X : Int) (e : Ending) (w' : World) : Prop :=
  ∃ (F : Dy) (b : Option Addr) (d : Nat), e = .returned (.tuple #[.agg #[.bool F.neg, .slice b F.mag.length d, .int .i64 F.exp], .bool true]) ∧ Fd F X ∧ LRow w' b F.mag ∧ (b = a ∨ Frs w.heap.size b) ∧ Below w.heap.size w w'
set_option maxHeartbeats 4000000 in
theorem size_any (E : Dy) (X : Int) (a : Option Addr) (c : Nat) (w : World) (hr : LRow w a E.mag) (hE : Fd E X) :
    Calls Tryd.prog 29 #[.agg #[.bool E.neg, .slice a E.mag.length c, .int .i64 E.exp], .int .i64 0] w (GaveA1 w a (X.natAbs : Int)) := by
  obtain ⟨g1, g2⟩ := fd_sign hE
  have os := fun W h => sign_all E a c W h hE.2.1
  rw [g1, g2] at os
  have on := fun W h => neg_any E a c W h hE.2.1
  have en : negD E = (trn E, 0) := by unfold negD; rw [if_pos hE.1]
  rw [en] at on
  have FN := fd_trn hE
  have S0 := TwoS.new (c := c) hr
  have l0 := row_lt hr
  clear g1 g2 en
  go_enter Tryd.func29, Tryd.ntmps29
  go_upto_region 1 with fail
  generalize (w.alloc (.cells #[.bool E.neg, .slice a E.mag.length c, .int .i64 E.exp] 31)).alloc (.cells #[.bool false, .slice none 0 0, .int .i64 0] 31) = W0 at *
  obtain ⟨p0, p1, p2, pr⟩ := id S0.h0
  by_cases hx : X < 0
  · have i1 : sgI X = -1 := by unfold sgI; rw [if_pos hx]
    rw [i1] at os
    go_upto_region 5 with (go_at_call 59; refine (os _ pr).mono ?_; rintro e w1 ⟨rfl, b1⟩)
    have S1 := S0.below b1
    clear p0 p1 p2 pr S0 b1 os
    obtain ⟨p0, p1, p2, pr⟩ := id S1.h0
    have t1 := S1.top
    generalize trn E = F at *
    go_upto_region 6 with (go_at_call 60; refine (on _ pr).mono ?_; rintro e w2 ⟨b, d, rfl, r2, f2, b2⟩; have S2 := S1.below b2; obtain ⟨p0, p1, p2, _⟩ := id S2.h0; obtain ⟨z0, z1, z2⟩ := id S2.z0)
    have S3 := S2.put (d := d) r2 (f2.mono (by omega))
    generalize (((w2.setCell ⟨w.heap.size, 0, none⟩ (.bool F.neg)).setCell ⟨w.heap.size, 1, none⟩ (.slice b F.mag.length d)).setCell ⟨w.heap.size, 2, none⟩ (.int .i64 F.exp)) = W3 at *
    clear p0 p1 p2 pr z0 z1 z2 S1 S2 b2 on r2
    obtain ⟨p0, p1, p2, pr⟩ := id S3.h0
    obtain ⟨q0, q1, q2, _⟩ := id S3.h1
    obtain ⟨z0, z1, z2⟩ := id S3.z1
    have m1 : ¬ w.heap.size = w.heap.size + 1 := by omega
    have m2 : ¬ w.heap.size + 1 = w.heap.size := by omega
    go_wp2
    refine bodyPost_ret (v := .tuple #[.agg #[.bool F.neg, .slice b F.mag.length d, .int .i64 F.exp], .bool true]) (by simp [results, Tryd.results29, go_sem, q0, q1, q2]) rfl ⟨F, b, d, rfl, ?_, row_ret pr (fun b' off e _ => by have := f2 _ e; simp only at this; omega), Or.inr (f2.mono (by omega)), set_ret S3.bel⟩
    rw [show (X.natAbs : Int) = -X by omega]; exact FN
  · have i1 : ¬ sgI X < 0 := by unfold sgI; rw [if_neg hx]; split <;> omega
    generalize sgI X = sg at *
    go_upto_region 6 with (go_at_call 59; refine (os _ pr).mono ?_; rintro e w1 ⟨rfl, b1⟩)
    have S1 := S0.below b1
    clear p0 p1 p2 pr S0 b1 os
    obtain ⟨p0, p1, p2, pr⟩ := id S1.h0
    obtain ⟨q0, q1, q2, _⟩ := id S1.h1
    obtain ⟨z0, z1, z2⟩ := id S1.z1
    have m1 : ¬ w.heap.size = w.heap.size + 1 := by omega
    have m2 : ¬ w.heap.size + 1 = w.heap.size := by omega
    go_wp2
    refine bodyPost_ret (v := .tuple #[.agg #[.bool E.neg, .slice a E.mag.length c, .int .i64 E.exp], .bool true]) (by simp [results, Tryd.results29, go_sem, q0, q1, q2]) rfl ⟨E, a, c, rfl, ?_, row_ret pr (fun b' off e l => by have := l0 _ _ e l; omega), Or.inl rfl, set_ret S1.bel⟩
    rw [show (X.natAbs : Int) = X by omega]; exact hE
set_option maxHeartbeats 2000000 in
theorem atmost_any (E F : Dy) (X Y : Int) (a b : Option Addr) (c d : Nat) (w : World) (hr : LRow w a E.mag) (hs : LRow w b F.mag) (hE : Fd E X) (hF : Fd F Y) (h : X ≤ Y) :
    Calls Tryd.prog 26 #[.agg #[.bool E.neg, .slice a E.mag.length c, .int .i64 E.exp], .agg #[.bool F.neg, .slice b F.mag.length d, .int .i64 F.exp]] w fun e w' => e = .returned (.bool true) ∧ Below w.heap.size w w' := by
  have cm := fun ao bo cap bcap w h1 h2 => Cmp_right E F ao bo cap bcap w h1 h2 hE.2.1 hF.2.1 hE.1 hF.1
  rw [fd_cmp hE hF] at cm
  have i1 : sgI (X - Y) ≤ 0 := by unfold sgI; split; omega; split; omega; omega
  generalize sgI (X - Y) = q at *
  have H1 := (Hd.new (w := w) (d := E) (ao := a) (cap := c) hr).below (bal _ (.cells #[.bool F.neg, .slice b F.mag.length d, .int .i64 F.exp] 31))
  have H2 := Hd.new (w := w.alloc (.cells #[.bool E.neg, .slice a E.mag.length c, .int .i64 E.exp] 31)) (d := F) (ao := b) (cap := d) (hs.alloc _)
  have e1 : (w.alloc (.cells #[.bool E.neg, .slice a E.mag.length c, .int .i64 E.exp] 31)).heap.size = w.heap.size + 1 := by go_simp
  rw [e1] at H2
  have B1 := bth3 (bal w (.cells #[.bool E.neg, .slice a E.mag.length c, .int .i64 E.exp] 31)) (bal _ (.cells #[.bool F.neg, .slice b F.mag.length d, .int .i64 F.exp] 31))
  go_enter Tryd.func26, Tryd.ntmps26
  go_upto_region 1 with fail
  generalize (w.alloc (.cells #[.bool E.neg, .slice a E.mag.length c, .int .i64 E.exp] 31)).alloc (.cells #[.bool F.neg, .slice b F.mag.length d, .int .i64 F.exp] 31) = W0 at *
  obtain ⟨p0, p1, p2, pr⟩ := id H1
  obtain ⟨q0, q1, q2, qr⟩ := id H2
  go_wp2_with (go_at_call 11; refine (cm _ _ _ _ _ pr qr).mono ?_; rintro e w1 ⟨rfl, b1⟩)
  go_ret
  exact ⟨rfl, bth3 B1 b1⟩
set_option maxHeartbeats 4000000 in
theorem apart_fin (x : Nat) (D : Dy) (X : Int) (a : Option Addr) (c : Nat) (w : World) (hT : TabW w) (hx : x < 18446744073709551616) (fx : finB x = true) (hr : LRow w a D.mag) (hD : Fd D X) (hb : bl (vI x * 2 ^ twP - X).natAbs ≤ 16384) :
    Calls Tryd.prog 24 #[.float .f64 x, .agg #[.bool D.neg, .slice a D.mag.length c, .int .i64 D.exp]] w (GaveY w ((vI x * 2 ^ twP - X).natAbs : Int)) := by
  obtain ⟨Y, eY, FY⟩ := fd_of fx
  have oo := fun W h => Of_any x hx W h
  rw [eY] at oo
  have ob := fun ao bo cap bcap w h1 h2 h3 => Sub_any Y D ao bo cap bcap w h1 h2 FY.2.1 hD.2.1 h3
  rw [fd_sub FY hD hb] at ob
  have FE := fd_dz hb
  have oz := fun ao cap w h => size_any (dz (vI x * 2 ^ twP - X)) _ ao cap w h FE
  generalize dz (vI x * 2 ^ twP - X) = E at *
  generalize vI x * 2 ^ twP - X = Q at *
  have S0 := TwoS.new (c := c) hr
  clear hr hD FY eY hb
  go_enter Tryd.func24, Tryd.ntmps24
  go_upto_region 1 with fail
  generalize (w.alloc (.cells #[.bool D.neg, .slice a D.mag.length c, .int .i64 D.exp] 31)).alloc (.cells #[.bool false, .slice none 0 0, .int .i64 0] 31) = W0 at *
  have T0 := tabW_below hT S0.bel
  go_upto_region 2 with (go_at_call 16; refine (oo _ T0).mono ?_; rintro e w1 ⟨ay, cy, rfl, ry, _, b1⟩)
  obtain ⟨V1, hV1⟩ : ∃ V, w1.alloc (.cells #[.bool Y.neg, .slice ay Y.mag.length cy, .int .i64 Y.exp] 31) = V := ⟨_, rfl⟩
  have B1 : Below W0.heap.size W0 V1 := by rw [← hV1]; exact bth3 b1 (bal _ _)
  have HY : Hd V1 w1.heap.size Y ay cy := by rw [← hV1]; exact Hd.new ry
  rw [hV1]
  have S1 := S0.below B1
  have T1 := tabW_below T0 B1
  clear hV1 ry b1 B1 S0 T0 oo
  generalize w1.heap.size = PY at *
  obtain ⟨p0, p1, p2, pr⟩ := id S1.h0
  obtain ⟨y0, y1, y2, yr⟩ := id HY
  have t1 := S1.top
  go_upto_region 5 with (go_at_call 55; refine (ob _ _ _ _ _ yr pr T1).mono ?_; rintro e w2 ⟨ae, ce, rfl, re, fe, b2⟩)
  obtain ⟨V2, hV2⟩ : ∃ V, w2.alloc (.cells #[.bool E.neg, .slice ae E.mag.length ce, .int .i64 E.exp] 31) = V := ⟨_, rfl⟩
  have B2 : Below V1.heap.size V1 V2 := by rw [← hV2]; exact bth3 b2 (bal _ _)
  have HE : Hd V2 w2.heap.size E ae ce := by rw [← hV2]; exact Hd.new re
  rw [hV2]
  have S2 := S1.below B2
  have nE : Frs (w.heap.size + 2) ae := fe.mono (by omega)
  clear hV2 re fe b2 B2 S1 T1 ob p0 p1 p2 pr y0 y1 y2 yr HY
  generalize w2.heap.size = PE at *
  obtain ⟨p0, p1, p2, pr⟩ := id HE
  have t2 := S2.top
  go_wp2_with (go_at_call 29; refine (oz _ _ _ pr).mono ?_; rintro e w3 ⟨F, b, d, rfl, hF, r3, hbb, b3⟩; have S3 := S2.below b3; obtain ⟨q0, q1, q2, _⟩ := id S3.h1; obtain ⟨z0, z1, z2⟩ := id S3.z1)
  have nb : Frs (w.heap.size + 2) b := by
    rcases hbb with g | g
    · rw [g]; exact nE
    · exact g.mono (by omega)
  refine bodyPost_ret (v := .tuple #[.agg #[.bool F.neg, .slice b F.mag.length d, .int .i64 F.exp], .bool true]) (by simp [results, Tryd.results24, go_sem, q0, q1, q2]) rfl ⟨F, b, d, rfl, hF, row_ret r3 (fun b' off e _ => by have := nb _ e; simp only at this; omega), nb.mono (by omega), set_ret S3.bel⟩
set_option maxHeartbeats 2000000 in
theorem apart_not (x : Nat) (D : Dy) (a : Option Addr) (c : Nat) (w : World) (hT : TabW w) (hx : x < 18446744073709551616) (fx : finB x = false) (hr : LRow w a D.mag) :
    Calls Tryd.prog 24 #[.float .f64 x, .agg #[.bool D.neg, .slice a D.mag.length c, .int .i64 D.exp]] w fun e w' => e = .returned (.tuple #[.agg #[.bool D.neg, .slice a D.mag.length c, .int .i64 D.exp], .bool false]) ∧ LRow w' a D.mag ∧ Below w.heap.size w w' := by
  have oo := fun W h => Of_any x hx W h
  have eY : ofD x = (dy0, 5) := by unfold ofD; rw [if_pos fx]
  rw [eY] at oo
  have l0 := row_lt hr
  have S0 := TwoS.new (c := c) hr
  clear hr eY
  go_enter Tryd.func24, Tryd.ntmps24
  go_upto_region 1 with fail
  generalize (w.alloc (.cells #[.bool D.neg, .slice a D.mag.length c, .int .i64 D.exp] 31)).alloc (.cells #[.bool false, .slice none 0 0, .int .i64 0] 31) = W0 at *
  have T0 := tabW_below hT S0.bel
  go_upto_region 2 with (go_at_call 16; refine (oo _ T0).mono ?_; rintro e w1 ⟨ay, cy, rfl, ry, _, b1⟩)
  obtain ⟨V1, hV1⟩ : ∃ V, w1.alloc (.cells #[.bool dy0.neg, .slice ay dy0.mag.length cy, .int .i64 dy0.exp] 31) = V := ⟨_, rfl⟩
  have B1 : Below W0.heap.size W0 V1 := by rw [← hV1]; exact bth3 b1 (bal _ _)
  rw [hV1]
  have S1 := S0.below B1
  clear hV1 ry b1 B1 S0 T0 oo
  generalize w1.heap.size = PY at *
  obtain ⟨p0, p1, p2, pr⟩ := id S1.h0
  obtain ⟨q0, q1, q2, _⟩ := id S1.h1
  obtain ⟨z0, z1, z2⟩ := id S1.z1
  have m1 : ¬ w.heap.size = w.heap.size + 1 := by omega
  have m2 : ¬ w.heap.size + 1 = w.heap.size := by omega
  go_wp2
  exact bodyPost_ret (v := .tuple #[.agg #[.bool D.neg, .slice a D.mag.length c, .int .i64 D.exp], .bool false]) (by simp [results, Tryd.results24, go_sem, q0, q1, q2]) rfl ⟨rfl, row_ret pr (fun b' off e l => by have := l0 _ _ e l; omega), set_ret S1.bel⟩
theorem first_not (xs : List Nat) : ∀ n, n ≤ xs.length → (∀ j, j < n → finB (xs.getD j 0) = true) ∨ ∃ K, K < n ∧ finB (xs.getD K 0) = false ∧ ∀ j, j < K → finB (xs.getD j 0) = true
  | 0, _ => Or.inl (fun j h => by omega)
  | n + 1, h => by
    rcases first_not xs n (by omega) with g | ⟨K, k1, k2, k3⟩
    · cases f : finB (xs.getD n 0)
      · exact Or.inr ⟨n, by omega, f, g⟩
      · exact Or.inl (fun j hj => by
          by_cases e : j = n
          · rw [e]; exact f
          · exact g j (by omega))
    · exact Or.inr ⟨K, by omega, k2, k3⟩
theorem lsum_not (xs : List Nat) (ao : Option Addr) (cap : Nat) (w : World) (hT : TabW w) (hr : GRow w ao xs) (hF : FW xs) (hn : xs.length ≤ 1125899906842624) (hf : xs.all finB = false) :
    Calls Tryd.prog 10 #[.slice ao xs.length cap] w (GaveNo w) := by
  rcases first_not xs xs.length (Nat.le_refl _) with g | ⟨K, k1, k2, k3⟩
  · exfalso
    have : xs.all finB = true := by
      rw [List.all_eq_true]
      intro x hx
      obtain ⟨j, hj, e⟩ := List.mem_iff_getElem.1 hx
      have := g j hj
      rw [getD_at hj, e] at this
      exact this
    rw [this] at hf; cases hf
  · have et : ∀ k, k < K → (xs.take K).getD k 0 = xs.getD k 0 := fun k hk => by simp [List.getD_eq_getElem?_getD, hk]
    have hl : (xs.take K).length = K := by rw [List.length_take]; omega
    have hy : (xs.take K).all finB = true := by
      rw [List.all_eq_true]
      intro x hx
      obtain ⟨j, hj, e⟩ := List.mem_iff_getElem.1 hx
      have := k3 j (by omega)
      rw [← et j (by omega), getD_at hj, e] at this
      exact this
    have hz := sizes_fin hy
    have hlz : ((xs.take K).map rung).length = K := by rw [List.length_map, hl]
    have n1 : ofD (xs.getD K 0) = (dy0, 5) := by unfold ofD; rw [if_pos k2]
    have n2 : ofD (rung (xs.getD K 0)) = (dy0, 5) := by
      unfold ofD
      rw [if_pos]
      unfold finB at k2 ⊢
      rw [rung_small (rung_lt _)]
      exact k2
    refine lsum_stop xs ao cap K (fun k => (ofD (xs.getD k 0)).1) (fun k => (ofD (rung (xs.getD k 0))).1) (sD (xs.take K)) (sD ((xs.take K).map rung)) w hT hr hF hn k1 (fun k hk => ?_) (by unfold sD sI nrm; rw [if_pos rfl]) (by unfold sD sI nrm; rw [if_pos rfl]) (fun k hk => ⟨?_, ?_⟩) (fun k _ => ⟨nrm_lm _ _, nrm_lm _ _⟩) ⟨n1, n2⟩
    · obtain ⟨b1, _, b3, _⟩ := fq_qd (k3 k hk) (K := 64462) rfl
      obtain ⟨d1, _, d3, _⟩ := fq_qd (fin_at hz (by rw [hlz]; exact hk)) (K := 64462) rfl
      rw [sizes_at (by rw [hl]; exact hk), et k hk] at d1 d3
      exact ⟨by rw [← b1], b3, by rw [← d1], d3⟩
    · rw [← et k hk]
      exact sD_add hy (by omega) (by omega)
    · rw [← et k hk, ← sizes_at (xs := xs.take K) (by rw [hl]; exact hk)]
      exact sD_add hz (by omega) (by omega)
end Go.Proofs.YtlkmmfmnggejlaaDoor

namespace Go.Proofs.YtlkmmfmnggejlaaDoor
open Go.RowKit

theorem sameNR {o : Option Nat} {r s : Nat} (h : NR o r) (g : NR o s) (w : World) : Calls Tryd.prog 20 #[.float .f64 r, .float .f64 s] w fun e w' => e = .returned (.bool true) ∧ w' = w := by
  have k := samef_any r s h.1 g.1 w
  rw [NR_same h g] at k
  exact k
theorem nr_some {o : Option Nat} {r : Nat} (h : NR o r) (f : finB r = true) : o = some r := by
  cases o with
  | none =>
    have : nanB r = true := h.2
    rw [fin_not f] at this; cases this
  | some v => rw [h.2]
theorem near_plain {ys : List Nat} (hn : ys.length ≤ 200) (hF : FW ys) (hf : ys.all finB = true) {v b s : Nat} (hv : NR (naiveO ys) v) (hs : NR (nrO ys ys.length) s) (hb : NR (mulO (cW ys.length) s 2) b) (fv : finB v = true) (fb : finB b = true) :
    ((vI v - sI ys ys.length).natAbs : Int) ≤ vI b ∧ ∀ p, NR (pairF ys.length ys) p → finB p = true → ((vI p - sI ys ys.length).natAbs : Int) ≤ vI b := by
  obtain ⟨s', e1, e2, _, e4⟩ := nr_inv ys ys.length (by omega) (fun j hj => fin_not (fin_at hf hj))
  rw [e1] at hs
  obtain rfl : s = s' := hs.2
  have hm := nr_some hb fb
  obtain ⟨g1, g2⟩ := bound_up hn e2 (cOk_at (by omega)).2.2 hm fb
  obtain ⟨_, e5, _⟩ := e4 g1
  have e6 : sI (szL ys) ys.length = la ys := by
    show sI (ys.map rung) ys.length = _
    rw [sI_la ys _ (Nat.le_refl _), List.take_length]
  have e7 : sI ys ys.length = lv ys := by rw [sI_lv ys _ (Nat.le_refl _), List.take_length]
  rw [e6] at e5
  rw [e7]
  rw [vI_pos (Nat.le_of_lt g1)] at g2
  have e8 : (ys.length : Int) * la ys ≤ (ys.length : Int) * (val s : Int) := Int.mul_le_mul_of_nonneg_left e5 (by omega)
  have e9 : 0 ≤ (ys.length : Int) * la ys := Int.mul_nonneg (by omega) (la_pos ys)
  have k1 := (naive_err ys.length ys rfl hn hF hf v (nr_some hv fv)).2.2 fv
  refine ⟨?_, fun p hp fp => ?_⟩
  · generalize (ys.length : Int) * la ys = q at *
    generalize (ys.length : Int) * (val s : Int) = z at *
    omega
  · have k2 := (pair_err ys.length ys (Nat.le_refl _) hn hF hf p (nr_some hp fp)).2.2 fp
    generalize (ys.length : Int) * la ys = q at *
    generalize (ys.length : Int) * (val s : Int) = z at *
    omega
theorem sI_small {ys : List Nat} (hn : ys.length ≤ 200) (hf : ys.all finB = true) {V : Nat} (hV : V = 2106) : (sI ys ys.length).natAbs < 2 ^ V := by
  have h1 := sI_lt hf (V := 2098) rfl ys.length (Nat.le_refl _)
  obtain ⟨U, hU⟩ : ∃ U : Nat, U = 2098 := ⟨_, rfl⟩
  rw [← hU] at h1
  rw [hV, show (2106 : Nat) = U + 8 by rw [hU], Nat.pow_add]
  have hp := Nat.two_pow_pos U
  have : ys.length * 2 ^ U ≤ 200 * 2 ^ U := Nat.mul_le_mul_right _ hn
  generalize (2 : Nat) ^ U = w at *
  omega
theorem near_bl {ys : List Nat} (hn : ys.length ≤ 200) (hf : ys.all finB = true) {x : Nat} (fx : finB x = true) : bl (vI x * 2 ^ twP - sI ys ys.length * 2 ^ twP).natAbs ≤ 16384 := by
  obtain ⟨U, hU⟩ : ∃ U : Nat, U = 2106 := ⟨_, rfl⟩
  have h1 := sI_small hn hf hU
  obtain ⟨V, hV, h2⟩ := vI_bd fx
  have h3 : (2 : Nat) ^ V ≤ 2 ^ U := Nat.pow_le_pow_right (by omega) (by omega)
  refine bl_sm (n := U + 1 + twP) ?_ (by unfold twP; omega)
  rw [← Int.sub_mul, Int.natAbs_mul, pw_abs, Nat.pow_add]
  refine (Nat.mul_lt_mul_right (Nat.two_pow_pos twP)).2 ?_
  rw [Nat.pow_succ]
  generalize (2 : Nat) ^ U = a at *
  generalize (2 : Nat) ^ V = b at *
  omega
theorem sD_fd {ys : List Nat} (hn : ys.length ≤ 200) (hf : ys.all finB = true) : Fd (sD ys ys.length) (sI ys ys.length * 2 ^ twP) := by
  obtain ⟨h1, h2, h3⟩ := sD_qd hf (by omega) (k := ys.length) (Nat.le_refl _) (K := 64462) rfl
  refine ⟨h1, h2, ?_⟩
  rw [h3, Int.mul_assoc, ← Int.pow_add]; rfl
theorem abs_units (x y : Int) : ((x * 2 ^ twP - y * 2 ^ twP).natAbs : Int) = ((x - y).natAbs : Int) * 2 ^ twP := by
  rw [← Int.sub_mul, Int.natAbs_mul, pw_abs, Int.natCast_mul, pw_cast]
theorem up_units {x y : Int} (h : x ≤ y) : x * 2 ^ twP ≤ y * 2 ^ twP := Int.mul_le_mul_of_nonneg_right h (Int.le_of_lt (pw_pos twP))
set_option maxRecDepth 100000 in
set_option maxHeartbeats 8000000 in
theorem near_law (xs : List Nat) (ao : Option Addr) (cap : Nat) (w : World) (hT : TabW w) (hr : GRow w ao xs) (hF : FW xs) (hl : xs.length ≤ cap) (hc : cap ≤ 1125899906842624) :
    Calls Tryd.prog 5 #[.slice ao xs.length cap] w fun e w' => e = .returned (.bool true) ∧ Below w.heap.size w w' := by
  have q0 : (FloatKind.f64.format.order 0 0 == some .eq) = true := by kernel_rfl
  go_enter Tryd.func5, Tryd.ntmps5
  go_upto_if 20 with (go_at_call 7; refine (uawake _ hT).mono ?_; rintro e w1 ⟨rfl, b1⟩)
  have HB := b1
  have T1 := tabW_below hT HB
  replace hr := hr.below b1
  clear b1 hT
  go_cut [0] from 21 (fun s0 wx => s0 = .slice ao (xs.take 200).length cap ∧ wx = w1)
  case first =>
    by_cases h : 200 < xs.length
    · have i1 : (200 : Int) < (xs.length : Int) := by omega
      have i2 : (200 : Int) ≤ (cap : Int) := by omega
      have i3 : ¬ cap = 0 := by omega
      have e : (xs.take 200).length = 200 := by rw [List.length_take]; omega
      rcases hr with g | ⟨b, off, rfl, _⟩
      · omega
      · go_wp2_with fail
        go_meet
        exact ⟨by rw [e], rfl⟩
    · have i1 : ¬ (200 : Int) < (xs.length : Int) := by omega
      have e : (xs.take 200).length = xs.length := by rw [List.length_take]; omega
      go_wp2_with fail
      go_meet
      exact ⟨by rw [e], rfl⟩
  obtain ⟨rfl, rfl⟩ := hcut
  replace hr := hr.take 200
  replace hF := hF.take 200
  have hn : (xs.take 200).length ≤ 200 := by rw [List.length_take]; omega
  have hl2 : (xs.take 200).length ≤ cap := by rw [List.length_take]; omega
  clear hl
  generalize xs.take 200 = ys at *
  cases hf : ys.all finB
  · have c1 := fun W h => near_not ys ao cap W h hF (by omega) hf
    have c2 := fun W h1 h2 => lsum_not ys ao cap W h1 h2 hF (by omega) hf
    clear hf hF
    go_upto_region 7 with (first
      | (go_at_call 23; refine (c1 _ hr).mono ?_; rintro e w' ⟨rfl, h'⟩; subst w')
      | (go_at_call 10; refine (c2 _ T1 hr).mono ?_; rintro e w2 ⟨D, oa, ca, rfl, b2⟩))
    have B2 := bth3 (bth3 b2 (bal _ (.cells #[.bool D.neg, .slice oa D.mag.length ca, .int .i64 D.exp] 31))) (bal _ (.cells #[.bool D.neg, .slice oa D.mag.length ca, .int .i64 D.exp] 31))
    generalize (w2.alloc (.cells #[.bool D.neg, .slice oa D.mag.length ca, .int .i64 D.exp] 31)).alloc (.cells #[.bool D.neg, .slice oa D.mag.length ca, .int .i64 D.exp] 31) = V at *
    clear c1 c2 b2
    go_wp2
    go_ret
    exact ⟨rfl, bth3 HB B2⟩
  · have c1 := fun W h1 h2 => near_fin ys ao cap W h1 h2 hF (by omega) hf
    have c2 := fun W h1 h2 => lsum_fin ys ao cap W h1 h2 hF (by omega) hf
    have c3 := fun W h => pair_any ys.length ys ao cap W (Nat.le_refl _) h hF hl2 hc
    have c4 := fun W h => naive_any ys ao cap W h hF (by omega)
    have HP : Hid _ := @near_plain ys hn hF hf
    have FD := sD_fd hn hf
    have HL : Hid (∀ x, finB x = true → bl (vI x * 2 ^ twP - sI ys ys.length * 2 ^ twP).natAbs ≤ 16384) := fun x fx => near_bl hn hf fx
    clear hf hF
    generalize sD ys ys.length = D at *
    generalize sD (ys.map rung) ys.length = Z at *
    go_upto_region 6 with (go_at_call 23; refine (c1 _ T1 hr).mono ?_; rintro e w2 ⟨v, b, s, nv, ns, nb, hvb, b2⟩; rcases hvb with ⟨hq, rfl⟩ | ⟨hq, rfl⟩)
    · replace HB := bth3 HB b2
      replace T1 := tabW_below T1 b2
      replace hr := hr.below b2
      have fv : finB v = true := by revert hq; cases finB v <;> simp
      have fb : finB b = true := by revert hq; cases finB v <;> simp
      have HP2 : Hid _ := HP.out nv ns nb fv fb
      have hv := nv.1
      have hb := nb.1
      have nv : NR (naiveO ys) v := nv
      clear c1 hq b2 ns nb HP
      obtain ⟨Y, eY, FY⟩ := fd_of fb
      have oY := fun W h => Of_any b hb W h
      rw [eY] at oY
      have c5 := fun a c W h1 h2 => apart_fin v D _ a c W h1 hv fv h2 FD (HL.out v fv)
      rw [abs_units] at c5
      go_upto_region 9 with (go_at_call 10; refine (c2 _ T1 hr).mono ?_; rintro e w3 ⟨oa, ca, ob, cb, rfl, ra, rb, b3⟩)
      obtain ⟨V1, hV1⟩ : ∃ V, (w3.alloc (.cells #[.bool D.neg, .slice oa D.mag.length ca, .int .i64 D.exp] 31)).alloc (.cells #[.bool Z.neg, .slice ob Z.mag.length cb, .int .i64 Z.exp] 31) = V := ⟨_, rfl⟩
      have B1 : Below w3.heap.size w3 V1 := by rw [← hV1]; exact bth3 (bal _ _) (bal _ _)
      have HD : Hd V1 w3.heap.size D oa ca := by rw [← hV1]; exact (Hd.new ra).below (bal _ _)
      rw [hV1]
      have B2 := bth3 b3 B1
      replace HB := bth3 HB B2
      replace T1 := tabW_below T1 B2
      replace hr := hr.below B2
      clear hV1 ra rb b3 c2 B1 B2
      generalize w3.heap.size = PD at *
      obtain ⟨p0, p1, p2, pr⟩ := id HD
      go_upto_region 10 with (go_at_call 24; refine (c5 _ _ _ T1 pr).mono ?_; rintro e w4 ⟨F, of, cf, rfl, hFF, rf, _, b4⟩)
      obtain ⟨V2, hV2⟩ : ∃ V, w4.alloc (.cells #[.bool F.neg, .slice of F.mag.length cf, .int .i64 F.exp] 31) = V := ⟨_, rfl⟩
      have B2 : Below V1.heap.size V1 V2 := by rw [← hV2]; exact bth3 b4 (bal _ _)
      have HF : Hd V2 w4.heap.size F of cf := by rw [← hV2]; exact Hd.new rf
      rw [hV2]
      replace HB := bth3 HB B2
      replace T1 := tabW_below T1 B2
      replace hr := hr.below B2
      replace HD := HD.below B2
      clear hV2 rf b4 c5 B2 p0 p1 p2 pr
      generalize w4.heap.size = PF at *
      go_upto_region 11 with (go_at_call 16; refine (oY _ T1).mono ?_; rintro e w5 ⟨oy, cy, rfl, ry, _, b5⟩)
      obtain ⟨V3, hV3⟩ : ∃ V, w5.alloc (.cells #[.bool Y.neg, .slice oy Y.mag.length cy, .int .i64 Y.exp] 31) = V := ⟨_, rfl⟩
      have B3 : Below V2.heap.size V2 V3 := by rw [← hV3]; exact bth3 b5 (bal _ _)
      have HY : Hd V3 w5.heap.size Y oy cy := by rw [← hV3]; exact Hd.new ry
      rw [hV3]
      replace HB := bth3 HB B3
      replace T1 := tabW_below T1 B3
      replace hr := hr.below B3
      replace HD := HD.below B3
      replace HF := HF.below B3
      clear hV3 ry b5 oY B3
      generalize w5.heap.size = PY at *
      go_upto_region 12 with (go_at_call 25; refine (c3 _ hr).mono ?_; rintro e w6 ⟨p, rfl, np, b6⟩)
      replace HB := bth3 HB b6
      replace T1 := tabW_below T1 b6
      replace hr := hr.below b6
      replace HD := HD.below b6
      replace HF := HF.below b6
      replace HY := HY.below b6
      have hp := np.1
      have HQ : Hid (finB p = true → ((vI p - sI ys ys.length).natAbs : Int) ≤ vI b) := fun f => HP2.out.2 p np f
      have k1 := up_units HP2.out.1
      have am := fun a c a' c' W h1 h2 => atmost_any F Y _ _ a a' c c' W h1 h2 hFF FY k1
      clear c3 b6 np HP2 k1
      obtain ⟨p0, p1, p2, pr⟩ := id HD
      cases fp : finB p
      · have c5 := fun a c W h1 h2 => apart_not p D a c W h1 hp fp h2
        have c6 := fin_no p hp fp
        go_upto_region 13 with (go_at_call 24; refine (c5 _ _ _ T1 pr).mono ?_; rintro e w7 ⟨rfl, rg, b7⟩)
        obtain ⟨V4, hV4⟩ : ∃ V, w7.alloc (.cells #[.bool D.neg, .slice oa D.mag.length ca, .int .i64 D.exp] 31) = V := ⟨_, rfl⟩
        have B4 : Below w6.heap.size w6 V4 := by rw [← hV4]; exact bth3 b7 (bal _ _)
        rw [hV4]
        replace HB := bth3 HB B4
        replace hr := hr.below B4
        replace HF := HF.below B4
        replace HY := HY.below B4
        clear hV4 rg b7 c5 B4 p0 p1 p2 pr
        generalize w7.heap.size = PG at *
        obtain ⟨p0, p1, p2, pr⟩ := id HF
        obtain ⟨y0, y1, y2, yr⟩ := id HY
        go_wp2_with (first
          | (go_at_call 26; refine (am _ _ _ _ _ pr yr).mono ?_; rintro e w8 ⟨rfl, b8⟩)
          | (go_at_call 27; refine (c4 _ (hr.below b8)).mono ?_; rintro e w9 ⟨v2, rfl, n2, b9⟩)
          | (go_at_call 20; refine (sameNR nv n2 _).mono ?_; rintro e w' ⟨rfl, h'⟩; subst w')
          | (go_at_call 13; refine (c6 _).mono ?_; rintro e w' ⟨rfl, h'⟩; subst w'))
        go_ret
        exact ⟨rfl, (bth3 (bth3 HB b8) b9).drew⟩
      · have c5 := fun a c W h1 h2 => apart_fin p D _ a c W h1 hp fp h2 FD (HL.out p fp)
        rw [abs_units] at c5
        have k2 := up_units (HQ.out fp)
        have c6 := fin_yes p hp fp
        go_upto_region 13 with (go_at_call 24; refine (c5 _ _ _ T1 pr).mono ?_; rintro e w7 ⟨G, og, cg, rfl, hG, rg, _, b7⟩)
        have an := fun a c a' c' W h1 h2 => atmost_any G Y _ _ a a' c c' W h1 h2 hG FY k2
        obtain ⟨V4, hV4⟩ : ∃ V, w7.alloc (.cells #[.bool G.neg, .slice og G.mag.length cg, .int .i64 G.exp] 31) = V := ⟨_, rfl⟩
        have B4 : Below w6.heap.size w6 V4 := by rw [← hV4]; exact bth3 b7 (bal _ _)
        have HG : Hd V4 w7.heap.size G og cg := by rw [← hV4]; exact Hd.new rg
        rw [hV4]
        replace HB := bth3 HB B4
        replace hr := hr.below B4
        replace HF := HF.below B4
        replace HY := HY.below B4
        clear hV4 rg b7 c5 B4 p0 p1 p2 pr k2
        generalize w7.heap.size = PG at *
        obtain ⟨p0, p1, p2, pr⟩ := id HF
        obtain ⟨y0, y1, y2, yr⟩ := id HY
        go_wp2_with (first
          | (go_at_call 26; refine (an _ _ _ _ _ gr' yr').mono ?_; rintro e w10 ⟨rfl, b10⟩)
          | (go_at_call 26; refine (am _ _ _ _ _ pr yr).mono ?_; rintro e w8 ⟨rfl, b8⟩)
          | (go_at_call 27; refine (c4 _ (hr.below b8)).mono ?_; rintro e w9 ⟨v2, rfl, n2, b9⟩; have b89 := bth3 b8 b9; obtain ⟨g0, g1, g2, gr'⟩ := HG.below b89; obtain ⟨y0, y1, y2, yr'⟩ := HY.below b89)
          | (go_at_call 20; refine (sameNR nv n2 _).mono ?_; rintro e w' ⟨rfl, h'⟩; subst w')
          | (go_at_call 13; refine (c6 _).mono ?_; rintro e w' ⟨rfl, h'⟩; subst w'))
        go_ret
        exact ⟨rfl, bth3 (bth3 HB b89) b10⟩
    · replace HB := bth3 HB b2
      replace T1 := tabW_below T1 b2
      replace hr := hr.below b2
      clear c1 hq b2 nv ns nb HP FD HL c3 c4
      go_upto_region 7 with (go_at_call 10; refine (c2 _ T1 hr).mono ?_; rintro e w3 ⟨oa, ca, ob, cb, rfl, ra, rb, b3⟩)
      have B2 := bth3 (bth3 b3 (bal _ (.cells #[.bool D.neg, .slice oa D.mag.length ca, .int .i64 D.exp] 31))) (bal _ (.cells #[.bool Z.neg, .slice ob Z.mag.length cb, .int .i64 Z.exp] 31))
      generalize (w3.alloc (.cells #[.bool D.neg, .slice oa D.mag.length ca, .int .i64 D.exp] 31)).alloc (.cells #[.bool Z.neg, .slice ob Z.mag.length cb, .int .i64 Z.exp] 31) = V at *
      clear c2 b3 ra rb
      go_wp2
      go_ret
      exact ⟨rfl, bth3 HB B2⟩
end Go.Proofs.YtlkmmfmnggejlaaDoor

namespace Go.Proofs.YtlkmmfmnggejlaaDoor
open Go.RowKit

set_option maxHeartbeats 400000 in
theorem ldexp_pow (L : Int) (M : Nat) (h1 : -1022 ≤ L) (h2 : L ≤ 1023) (hM : (M : Int) = 4607182418800017408 + L * 4503599627370496) (w : World) :
    Calls Tryd.prog 15 #[.float .f64 4607182418800017408, .int .i64 L] w fun e w' => e = .returned (.float .f64 M) ∧ w' = w := by
  have e0 : (4607182418800017408 / 4503599627370496 : Nat) = 1023 := by decide
  have cl := ldexp_at 4607182418800017408 L (by decide) (by decide) (by omega) (by omega) M (Or.inr (Or.inl ⟨by rw [e0]; omega, by rw [e0]; omega, hM⟩))
  clear h1 h2 hM e0
  go_enter Tryd.func15, Tryd.ntmps15
  go_wp2_with (go_at_call 41; refine (cl _).mono ?_; rintro e w' ⟨rfl, h'⟩; subst w')
  go_ret
  exact ⟨rfl, rfl⟩
theorem lt_sizes (x : Nat) {M : Nat} (hM : M ≤ 9218868437227405312) : (FloatKind.f64.format.order (rung x) M == some .lt) = decide (rung x < M) := by
  have lx := rung_lt x
  have nM : nanB M = false := rung_nan (by rw [rung_small (by omega)]; exact hM)
  have pM : place M = M := by unfold place; rw [(rung_pos (by omega)).1, (rung_pos (by omega)).2]; rfl
  have px : place (rung x) = rung x := by unfold place; rw [(rung_pos lx).1, (rung_pos lx).2]; rfl
  by_cases c : rung x ≤ 9218868437227405312
  · have nx : nanB (rung x) = false := rung_nan (by rw [rung_small lx]; exact c)
    rcases Nat.lt_trichotomy (rung x) M with g | g | g
    · rw [ord_lt (by omega) (by omega) nx nM (by omega), decide_eq_true g]; rfl
    · rw [ord_eq (by omega) (by omega) nx nM (by omega), decide_eq_false (by omega)]; rfl
    · rw [ord_gt (by omega) (by omega) nx nM (by omega), decide_eq_false (by omega)]; rfl
  · have nx : nanB (rung x) = true := by unfold nanB; rw [rung_small lx]; exact decide_eq_true (by omega)
    rw [ord_nan (by omega) (by omega) (Or.inl nx), decide_eq_false (by omega)]; rfl
set_option maxHeartbeats 2000000 in
theorem lcut_any (xs : List Nat) (ao : Option Addr) (cap : Nat) (L : Int) (M : Nat) (w : World) (hr : GRow w ao xs) (hF : FW xs) (hn : xs.length ≤ 200) (hM : M ≤ 9218868437227405312)
    (hl : ∀ W, Calls Tryd.prog 15 #[.float .f64 4607182418800017408, .int .i64 L] W fun e w' => e = .returned (.float .f64 M) ∧ w' = W) :
    Calls Tryd.prog 8 #[.slice ao xs.length cap, .int .i64 L] w fun e w' => e = .returned (.tuple #[.slice ao xs.length cap, .bool (xs.all fun x => decide (rung x < M))]) ∧ w' = w := by
  have i0 : ¬ (200 : Int) < (xs.length : Int) := by omega
  go_enter Tryd.func8, Tryd.ntmps8
  go_wp2_with (go_at_call 15; refine (hl _).mono ?_; rintro e w' ⟨rfl, h'⟩; subst w')
  go_loopg [7] xs.length (fun g i wr => ∃ k : Nat, k ≤ xs.length ∧ g = xs.length - k ∧ i = .int .i64 k ∧ Hid (∀ j, j < k → decide (rung (xs.getD j 0) < M) = true) ∧ wr = w)
  case atStart => exact ⟨0, Nat.zero_le _, rfl, rfl, fun j h => by omega, rfl⟩
  case round =>
    obtain ⟨k, hk, hg, rfl, hz, rfl⟩ := hrel
    have HG : Hid (gk = xs.length - k) := hg
    clear hg
    by_cases hlt : k < xs.length
    · rcases hr with h | ⟨b, off, rfl, hc⟩
      · omega
      · have g1 := hc k hlt
        have hx := hF.at hlt
        obtain ⟨x, ex⟩ : ∃ x, xs.getD k 0 = x := ⟨_, rfl⟩
        rw [ex] at g1 hx
        have hf := lt_sizes x hM
        have i1 : (k : Int) < (xs.length : Int) := by omega
        cases fx : decide (rung x < M) <;> rw [fx] at hf
        · have HE : Hid ((xs.all fun x => decide (rung x < M)) = false) := (show (xs.all fun x => decide (rung x < M)) = false by
            rw [List.all_eq_false]
            refine ⟨x, ?_, by rw [fx]; decide⟩
            rw [← ex, getD_at hlt]
            exact List.getElem_mem hlt)
          clear hc ex hz fx
          go_wp2_with (go_at_call 14; refine (abs_any x hx _).mono ?_; rintro e w' ⟨rfl, rfl⟩)
          go_ret2
          exact ⟨by rw [HE.out]; rfl, rfl⟩
        · have HZ : Hid (∀ j, j < k + 1 → decide (rung (xs.getD j 0) < M) = true) := fun j h => by
            by_cases e : j = k
            · rw [e, ex]; exact fx
            · exact hz.out j (by omega)
          clear hc ex hz fx
          go_wp2_with (go_at_call 14; refine (abs_any x hx _).mono ?_; rintro e w' ⟨rfl, rfl⟩)
          go_roundg (xs.length - (k + 1))
          case measure => rw [HG.out]; omega
          case rel => exact ⟨k + 1, by omega, rfl, by go_num, HZ, rfl⟩
    · have HE : Hid ((xs.all fun x => decide (rung x < M)) = true) := (show (xs.all fun x => decide (rung x < M)) = true by
        rw [List.all_eq_true]
        intro x hx
        obtain ⟨j, hj, e⟩ := List.mem_iff_getElem.1 hx
        have := hz.out j (by omega)
        rw [getD_at hj, e] at this
        exact this)
      have i1 : ¬ (k : Int) < (xs.length : Int) := by omega
      clear hz
      go_wp2
      go_ret2
      exact ⟨by rw [HE.out]; rfl, rfl⟩
end Go.Proofs.YtlkmmfmnggejlaaDoor

namespace Go.Proofs.YtlkmmfmnggejlaaDoor
open Go.RowKit

set_option maxHeartbeats 4000000 in
theorem lcut_long (xs : List Nat) (ao : Option Addr) (cap : Nat) (L : Int) (M : Nat) (w : World) (hr : GRow w ao xs) (hF : FW xs) (hl0 : xs.length ≤ cap) (hc0 : cap ≤ 1125899906842624) (hM : M ≤ 9218868437227405312)
    (hl : ∀ W, Calls Tryd.prog 15 #[.float .f64 4607182418800017408, .int .i64 L] W fun e w' => e = .returned (.float .f64 M) ∧ w' = W) :
    Calls Tryd.prog 8 #[.slice ao xs.length cap, .int .i64 L] w fun e w' => e = .returned (.tuple #[.slice ao (xs.take 200).length cap, .bool ((xs.take 200).all fun x => decide (rung x < M))]) ∧ w' = w := by
  have hn : (xs.take 200).length ≤ 200 := by rw [List.length_take]; omega
  have hF2 := hF.take 200
  have hr2 := hr.take 200
  have HE : (200 < xs.length → (xs.take 200).length = 200) ∧ (¬ 200 < xs.length → (xs.take 200).length = xs.length) := ⟨fun _ => by rw [List.length_take]; omega, fun _ => by rw [List.length_take]; omega⟩
  generalize xs.take 200 = ys at *
  go_enter Tryd.func8, Tryd.ntmps8
  go_upto_if 10 with fail
  go_cut [0] from 11 (fun s0 wx => s0 = .slice ao ys.length cap ∧ wx = w)
  case first =>
    by_cases h : 200 < xs.length
    · have i1 : (200 : Int) < (xs.length : Int) := by omega
      have i2 : (200 : Int) ≤ (cap : Int) := by omega
      have i3 : ¬ cap = 0 := by omega
      have e := HE.1 h
      rcases hr with g | ⟨b, off, rfl, _⟩
      · omega
      · go_wp2_with fail
        go_meet
        exact ⟨by rw [e], rfl⟩
    · have i1 : ¬ (200 : Int) < (xs.length : Int) := by omega
      have e := HE.2 h
      go_wp2_with fail
      go_meet
      exact ⟨by rw [e], rfl⟩
  obtain ⟨rfl, rfl⟩ := hcut
  clear hl0 hc0 hr hF HE
  have hr := hr2
  have hF := hF2
  clear hr2 hF2
  obtain ⟨w, hww⟩ : ∃ w0, w0 = wc := ⟨_, rfl⟩
  subst hww
  go_wp2_with (go_at_call 15; refine (hl _).mono ?_; rintro e w' ⟨rfl, h'⟩; subst w')
  go_loopg [7] ys.length (fun g i wr => ∃ k : Nat, k ≤ ys.length ∧ g = ys.length - k ∧ i = .int .i64 k ∧ Hid (∀ j, j < k → decide (rung (ys.getD j 0) < M) = true) ∧ wr = w)
  case atStart => exact ⟨0, Nat.zero_le _, rfl, rfl, fun j h => by omega, rfl⟩
  case round =>
    obtain ⟨k, hk, hg, rfl, hz, rfl⟩ := hrel
    have HG : Hid (gk = ys.length - k) := hg
    clear hg
    by_cases hlt : k < ys.length
    · rcases hr with h | ⟨b, off, rfl, hc⟩
      · omega
      · have g1 := hc k hlt
        have hx := hF.at hlt
        obtain ⟨x, ex⟩ : ∃ x, ys.getD k 0 = x := ⟨_, rfl⟩
        rw [ex] at g1 hx
        have hf := lt_sizes x hM
        have i1 : (k : Int) < (ys.length : Int) := by omega
        cases fx : decide (rung x < M) <;> rw [fx] at hf
        · have HE : Hid ((ys.all fun x => decide (rung x < M)) = false) := (show (ys.all fun x => decide (rung x < M)) = false by
            rw [List.all_eq_false]
            refine ⟨x, ?_, by rw [fx]; decide⟩
            rw [← ex, getD_at hlt]
            exact List.getElem_mem hlt)
          clear hc ex hz fx
          go_wp2_with (go_at_call 14; refine (abs_any x hx _).mono ?_; rintro e w' ⟨rfl, rfl⟩)
          go_ret2
          exact ⟨by rw [HE.out]; rfl, rfl⟩
        · have HZ : Hid (∀ j, j < k + 1 → decide (rung (ys.getD j 0) < M) = true) := fun j h => by
            by_cases e : j = k
            · rw [e, ex]; exact fx
            · exact hz.out j (by omega)
          clear hc ex hz fx
          go_wp2_with (go_at_call 14; refine (abs_any x hx _).mono ?_; rintro e w' ⟨rfl, rfl⟩)
          go_roundg (ys.length - (k + 1))
          case measure => rw [HG.out]; omega
          case rel => exact ⟨k + 1, by omega, rfl, by go_num, HZ, rfl⟩
    · have HE : Hid ((ys.all fun x => decide (rung x < M)) = true) := (show (ys.all fun x => decide (rung x < M)) = true by
        rw [List.all_eq_true]
        intro x hx
        obtain ⟨j, hj, e⟩ := List.mem_iff_getElem.1 hx
        have := hz.out j (by omega)
        rw [getD_at hj, e] at this
        exact this)
      have i1 : ¬ (k : Int) < (ys.length : Int) := by omega
      clear hz
      go_wp2
      go_ret2
      exact ⟨by rw [HE.out]; rfl, rfl⟩
theorem int_fd {n : Int} (h1 : -9223372036854775808 ≤ n) (h2 : n ≤ 9223372036854775807) : Fd (intD n) (n * 2 ^ twP * 2 ^ twP) := by
  obtain ⟨g1, g2, g3⟩ := int_facts h1 h2
  refine ⟨g1, g2, ?_⟩
  rw [g3, Int.mul_assoc, Int.mul_assoc, ← Int.pow_add, ← Int.pow_add]; rfl
/-- The numbers of the bound. -/
structure KN (n : Nat) (Q X : Int) (Z A B B2 C : Dy) (Y : Int) : Prop where
  s52 : ∀ F, Fd F Q → scaleD F (-52) = (A, 0)
  lA : Lm A.mag
  mul : mulD (intD ((n : Int) * (n : Int))) Z = (B, 0)
  lB : Lm B.mag
  s104 : scaleD B (-104) = (B2, 0)
  lB2 : Lm B2.mag
  add : addD A B2 = (C, 0)
  fC : Fd C Y
  le : X ≤ Y
theorem pw_lt {x : Int} {a b : Nat} (h : x.natAbs < 2 ^ a) : (x * 2 ^ b).natAbs < 2 ^ (a + b) := by
  rw [Int.natAbs_mul, pw_abs, Nat.pow_add]
  exact (Nat.mul_lt_mul_right (Nat.two_pow_pos b)).2 h
theorem kept_num {S A V : Int} {n : Nat} {Z : Dy} (hn : n ≤ 200) {U : Nat} (hU : U = 2106) (hS : S.natAbs < 2 ^ U) (hA0 : 0 ≤ A) (hA : A.natAbs < 2 ^ U)
    (hB : 20282409603651670423947251286016 * (V - S).natAbs ≤ 4503599627370496 * S.natAbs + ((n : Int) * ((n : Int) * A)).natAbs) (FZ : Fd Z (A * 2 ^ twP)) :
    ∃ A1 B B2 C Y, KN n ((S * 2 ^ twP).natAbs : Int) ((V * 2 ^ twP - S * 2 ^ twP).natAbs : Int) Z A1 B B2 C Y := by
  obtain ⟨e, he⟩ : ∃ e : Nat, e = 970 := ⟨_, rfl⟩
  rw [← Int.mul_assoc] at hB
  have hN0 : 0 ≤ (n : Int) * (n : Int) := Int.mul_nonneg (by omega) (by omega)
  have hN1 : (n : Int) * (n : Int) ≤ 200 * 200 := Int.mul_le_mul (by omega) (by omega) (by omega) (by omega)
  have FN := int_fd (n := (n : Int) * (n : Int)) (by omega) (by omega)
  suffices h : ∀ N : Int, 0 ≤ N → N ≤ 200 * 200 → 20282409603651670423947251286016 * (V - S).natAbs ≤ 4503599627370496 * S.natAbs + (N * A).natAbs → ∀ E : Dy, Fd E (N * 2 ^ twP * 2 ^ twP) → ∃ A1 B B2 C Y, (∀ F, Fd F ((S * 2 ^ twP).natAbs : Int) → scaleD F (-52) = (A1, 0)) ∧ Lm A1.mag ∧ mulD E Z = (B, 0) ∧ Lm B.mag ∧ scaleD B (-104) = (B2, 0) ∧ Lm B2.mag ∧ addD A1 B2 = (C, 0) ∧ Fd C Y ∧ ((V * 2 ^ twP - S * 2 ^ twP).natAbs : Int) ≤ Y by
    obtain ⟨A1, B, B2, C, Y, h1, h2, h3, h4, h5, h6, h7, h8, h9⟩ := h _ hN0 hN1 hB _ FN
    exact ⟨A1, B, B2, C, Y, h1, h2, h3, h4, h5, h6, h7, h8, h9⟩
  clear hN0 hN1 FN hB
  intro N hN0 hN1 hB E FN
  have t52 : (2 : Int) ^ twP = 2 ^ (e + 52) * 2 ^ 52 := by rw [← Int.pow_add]; congr 1; unfold twP; omega
  have t104 : (2 : Int) ^ twP = 2 ^ e * 2 ^ 104 := by rw [← Int.pow_add]; congr 1; unfold twP; omega
  have e1 : ((S * 2 ^ twP).natAbs : Int) = (S.natAbs : Int) * 2 ^ (e + 52) * 2 ^ 52 := by rw [Int.natAbs_mul, pw_abs, Int.natCast_mul, pw_cast, t52, Int.mul_assoc]
  have hS' : ((S.natAbs : Int)).natAbs < 2 ^ U := hS
  have p1 := pw_lt (b := e + 52) hS'
  have hNA : (N * A).natAbs < 2 ^ (U + 16) := by
    rw [Int.natAbs_mul, Nat.pow_add, Nat.mul_comm]
    exact Nat.mul_lt_mul_of_lt_of_le hA (show N.natAbs ≤ 2 ^ 16 by omega) (by decide)
  have p2 := pw_lt (b := twP) hNA
  have p3 := pw_lt (b := e) hNA
  have b1 : bl ((S.natAbs : Int) * 2 ^ (e + 52)).natAbs ≤ 16384 := bl_sm p1 (by omega)
  have b2 : bl (N * A * 2 ^ twP).natAbs ≤ 16384 := bl_sm p2 (by unfold twP; omega)
  have b3 : bl (N * A * 2 ^ e).natAbs ≤ 16384 := bl_sm p3 (by omega)
  have p4 : ((S.natAbs : Int) * 2 ^ (e + 52) + N * A * 2 ^ e).natAbs < 2 ^ (U + 2000) := by
    have q1 : (2 : Nat) ^ (U + (e + 52)) ≤ 2 ^ (U + 1999) := pw_le (by omega)
    have q2 : (2 : Nat) ^ (U + 16 + e) ≤ 2 ^ (U + 1999) := pw_le (by omega)
    have q3 : (2 : Nat) ^ (U + 2000) = 2 ^ (U + 1999) * 2 := by rw [← Nat.pow_succ]
    generalize (S.natAbs : Int) * 2 ^ (e + 52) = x at *
    generalize N * A * 2 ^ e = y at *
    generalize (2 : Nat) ^ (U + (e + 52)) = c1 at *
    generalize (2 : Nat) ^ (U + 16 + e) = c2 at *
    generalize (2 : Nat) ^ (U + 1999) = c3 at *
    generalize (2 : Nat) ^ (U + 2000) = c4 at *
    omega
  have b4 := bl_sm p4 (by omega)
  have e2 : N * 2 ^ twP * A = N * A * 2 ^ twP := Int.mul_right_comm _ _ _
  have m1 := fd_mul (x := N * 2 ^ twP) (y := A) FN FZ (by rw [e2]; exact b2)
  rw [e2] at m1
  have f2 := fd_dz b2
  have f2' : Fd (dz (N * A * 2 ^ twP)) (N * A * 2 ^ e * 2 ^ 104) := by
    have e3 : N * A * 2 ^ e * 2 ^ 104 = N * A * 2 ^ twP := by rw [t104, Int.mul_assoc]
    rw [e3]; exact f2
  have f1 := fd_dz b1
  have f3 := fd_dz b3
  refine ⟨_, _, _, _, _, fun F hF => ?_, f1.2.1, m1, f2.2.1, fd_down f2' b3, f3.2.1, fd_add f1 f3 b4, fd_dz b4, ?_⟩
  · rw [e1] at hF
    exact fd_down hF b1
  · rw [abs_units, t104, show (2 : Int) ^ (e + 52) = 2 ^ e * 4503599627370496 by rw [Int.pow_add]; rfl, show (2 : Int) ^ 104 = 20282409603651670423947251286016 from rfl]
    have hp := pw_pos e
    have g0 : 0 ≤ N * A := Int.mul_nonneg hN0 hA0
    have g1 : 20282409603651670423947251286016 * ((V - S).natAbs : Int) ≤ 4503599627370496 * (S.natAbs : Int) + N * A := by
      generalize N * A = q at *
      omega
    have g2 := Int.mul_le_mul_of_nonneg_right g1 (Int.le_of_lt hp)
    rw [Int.add_mul, Int.mul_right_comm, Int.mul_right_comm 4503599627370496] at g2
    have g3 : ((V - S).natAbs : Int) * (2 ^ e * 20282409603651670423947251286016) = 20282409603651670423947251286016 * 2 ^ e * ((V - S).natAbs : Int) := by
      rw [Int.mul_comm, Int.mul_comm (2 ^ e)]
    have g4 : (S.natAbs : Int) * (2 ^ e * 4503599627370496) = 4503599627370496 * 2 ^ e * (S.natAbs : Int) := by
      rw [Int.mul_comm, Int.mul_comm (2 ^ e)]
    rw [g3, g4]
    exact g2
end Go.Proofs.YtlkmmfmnggejlaaDoor

namespace Go.Proofs.YtlkmmfmnggejlaaDoor
open Go.RowKit

/-- Is operation i done? -/
def On (L : Array Bool) (i : Nat) : Prop := L.getD i false = true
theorem on_set {L : Array Bool} {i : Nat} (hi : i < L.size) (j : Nat) : On (L.setIfInBounds i true) j ↔ j = i ∨ On L j := by
  unfold On
  simp only [Array.getD_eq_getD_getElem?, Array.getElem?_setIfInBounds]
  by_cases h : i = j
  · subst h; simp [hi]
  · have h2 : ¬ j = i := fun e => h e.symm
    simp [h, h2]
def lacks (L : Array Bool) : Nat := L.toList.count false
theorem count_set : ∀ (l : List Bool) (i : Nat) (hi : i < l.length), l[i] = false → (l.set i true).count false + 1 = l.count false
  | [], _, hi, _ => by simp at hi
  | x :: l, 0, _, h => by
    have h : x = false := h
    subst h
    simp
  | x :: l, i + 1, hi, h => by
    have := count_set l i (by simpa using hi) (by simpa using h)
    simp only [List.set_cons_succ, List.count_cons]
    omega
theorem lacks_set {L : Array Bool} {i : Nat} (hi : i < L.size) (h : L.getD i true = false) : lacks (L.setIfInBounds i true) + 1 = lacks L := by
  unfold lacks
  obtain ⟨l⟩ := L
  have hi : i < l.length := hi
  have h' : l[i] = false := by simpa [Array.getD, hi] using h
  have := count_set l i hi h'
  simpa using this
theorem all_on {L : Array Bool} (h : lacks L = 0) (i : Nat) : L.getD i true = true := by
  unfold lacks at h
  rw [List.count_eq_zero] at h
  obtain ⟨l⟩ := L
  by_cases hi : i < l.length
  · have hm : l[i] ∈ l := List.getElem_mem hi
    cases hl : l[i]
    · rw [hl] at hm; exact absurd hm h
    · simp [Array.getD, hi, hl]
  · simp [Array.getD, hi]
theorem mem_ready {ops : Array Oper} {L : Array Bool} {i : Nat} (h : i ∈ Region.ready .any ops L) : i < ops.size ∧ L.getD i true = false ∧ ∀ o, ops[i]? = some o → ∀ e ∈ o.after, Region.binds .any e = true → On L e.on := by
  unfold Region.ready at h
  rw [List.mem_filter, List.mem_range] at h
  obtain ⟨h1, h2⟩ := h
  simp only [Bool.and_eq_true, Bool.not_eq_true'] at h2
  refine ⟨h1, h2.1, fun o ho e he hb => ?_⟩
  have h3 := h2.2
  rw [ho] at h3
  simp only [Option.map_some, Option.getD_some, Array.all_eq_true_iff_forall_mem] at h3
  have := h3 e he
  rw [hb] at this
  simpa [On] using this
/-- What an operation that may be next waits for is done. -/
theorem ready_dep {ops : Array Oper} {L : Array Bool} {i : Nat} (h : i ∈ Region.ready .any ops L) (k : Nat) (hk : ((ops[i]?).map (fun o => o.after.any fun e => Region.binds .any e && e.on == k)).getD false = true) : On L k := by
  obtain ⟨h1, _, h3⟩ := mem_ready h
  cases ho : ops[i]? with
  | none => rw [ho] at hk; cases hk
  | some o =>
    rw [ho] at hk
    simp only [Option.map_some, Option.getD_some] at hk
    have hk2 : ∃ e, e ∈ o.after ∧ (Region.binds .any e && e.on == k) = true := by
      rw [← Array.any_toList] at hk
      obtain ⟨e, he, hb⟩ := List.any_eq_true.1 hk
      exact ⟨e, by simpa using he, hb⟩
    obtain ⟨e, he, hb⟩ := hk2
    simp only [Bool.and_eq_true, beq_iff_eq] at hb
    rw [← hb.2]
    exact h3 o ho e he hb.1
/-- Where none may be next, all are done (each waits for earlier ones alone). -/
theorem all_done {ops : Array Oper} {L : Array Bool} (hL : L.size = ops.size) (h : Region.ready .any ops L = []) (hk : ((List.range ops.size).all fun i => ((ops[i]?).map (fun o => o.after.all fun e => !Region.binds .any e || decide (e.on < i))).getD true) = true) : ∀ i, i < ops.size → On L i := by
  intro i
  induction i using Nat.strongRecOn with
  | _ i ih =>
    intro hi
    by_cases hn : On L i
    · exact hn
    · exfalso
      have hm : i ∈ Region.ready .any ops L := by
        unfold Region.ready
        rw [List.mem_filter, List.mem_range]
        refine ⟨hi, ?_⟩
        simp only [Bool.and_eq_true, Bool.not_eq_true']
        constructor
        · unfold On at hn
          simp [Array.getD, hL, hi] at hn ⊢
          exact hn
        · rw [Array.getElem?_eq_getElem hi]
          simp only [Option.map_some, Option.getD_some]
          rw [Array.all_eq_true_iff_forall_mem]
          intro e he
          have h1 := List.all_eq_true.1 hk i (List.mem_range.2 hi)
          rw [Array.getElem?_eq_getElem hi] at h1
          simp only [Option.map_some, Option.getD_some] at h1
          have h2 := Array.all_eq_true_iff_forall_mem.1 h1 e he
          simp only [Bool.or_eq_true, Bool.not_eq_true', decide_eq_true_eq] at h2 ⊢
          rcases h2 with h2 | h2
          · exact Or.inl h2
          · exact Or.inr (ih e.on h2 (by omega))
      rw [h] at hm
      cases hm
theorem wpAny_inv {P : Program} {ops : Array Oper} {Q : Exit → Act → World → Prop} (Inv : Array Bool → Act → World → Prop)
    (hs : ∀ L a w i, L.size = ops.size → Inv L a w → i ∈ Region.ready .any ops L → wpOp P ops Q i (Inv (L.setIfInBounds i true)) a w)
    (hf : ∀ L a w, L.size = ops.size → Inv L a w → Region.ready .any ops L = [] → Q .normal a w) :
    ∀ fuel L a w, L.size = ops.size → lacks L ≤ fuel → Inv L a w → wpAny P .any ops Q fuel L a w := by
  intro fuel
  induction fuel with
  | zero =>
    intro L a w hL hc hI
    have hr : Region.ready .any ops L = [] := by
      rw [List.eq_nil_iff_forall_not_mem]
      intro i hi
      have h := (mem_ready hi).2.1
      rw [all_on (by omega) i] at h
      cases h
    exact ⟨hr, hf L a w hL hI hr⟩
  | succ fuel ih =>
    intro L a w hL hc hI
    refine ⟨hf L a w hL hI, fun i hi => ?_⟩
    obtain ⟨h1, h2, _⟩ := mem_ready hi
    refine wpOp_mono (fun a' w' h' => ih _ a' w' (by simp [hL]) ?_ h') (hs L a w i hL hI hi)
    have := lacks_set (by rw [hL]; exact h1) h2
    omega
theorem region_inv {P : Program} {ops : Array Oper} {Q : Exit → Act → World → Prop} {id : Nat} {a : Act} {w : World} (hm : P.follows .mixedOrders = true) (Inv : Array Bool → Act → World → Prop)
    (h0 : Inv (Array.replicate ops.size false) a w.drew)
    (hs : ∀ L a w i, L.size = ops.size → Inv L a w → i ∈ Region.ready .any ops L → wpOp P ops Q i (Inv (L.setIfInBounds i true)) a w)
    (hf : ∀ L a w, L.size = ops.size → Inv L a w → Region.ready .any ops L = [] → Q .normal a w) : (Code.region id ops true).wp P Q a w :=
  wp_region_any hm (wpAny_inv Inv hs hf ops.size _ _ _ (by simp) (by unfold lacks; simp) h0)
end Go.Proofs.YtlkmmfmnggejlaaDoor

namespace Go.Proofs.YtlkmmfmnggejlaaDoor
open Go.RowKit

theorem on_none {n i : Nat} : ¬ On (Array.replicate n false) i := by
  unfold On
  simp only [Array.getD_eq_getD_getElem?, Array.getElem?_replicate]
  split <;> simp
theorem not_on {L : Array Bool} {i : Nat} (hi : i < L.size) (h : L.getD i true = false) : ¬ On L i := by
  unfold On
  intro h2
  simp [Array.getD, hi] at h h2
  rw [h] at h2
  cases h2
theorem wpOp_free {P : Program} {ops : Array Oper} {Q : Exit → Act → World → Prop} {i : Nat} {a : Act} {w : World} {K' : Act → World → Prop} (h : ∀ K : Act → World → Prop, (∀ a w, K' a w → K a w) → wpOp P ops Q i K a w) : wpOp P ops Q i K' a w := h K' (fun _ _ h => h)
/-- What is done of the region with Kept and apart, whatever the order. -/
structure KeS (W : World) (S4 : Value) (K : Nat) (D : Dy) (oa : Option Addr) (ca : Nat) (X : Int) (L : Array Bool) (w' : World) (v0 v1 v2 v3 v4 v5 v6 v7 v9 : Value) (F : Dy) (b : Option Addr) (d P : Nat) : Prop where
  bel : Below W.heap.size W w'
  d0 : On L 0 → v0 = S4
  d1 : On L 1 → v1 = .float .f64 K
  d2 : On L 2 → v2 = (.agg #[.bool D.neg, .slice oa D.mag.length ca, .int .i64 D.exp])
  d3 : On L 3 → v3 = .tuple #[(.agg #[.bool F.neg, .slice b F.mag.length d, .int .i64 F.exp]), .bool true]
  r3 : On L 3 → Fd F X ∧ LRow w' b F.mag ∧ (On L 7 → ∀ b' off, b = some ⟨b', off, none⟩ → F.mag.length ≠ 0 → b' ≠ P)
  d4 : On L 4 → v4 = .tuple #[(.agg #[.bool F.neg, .slice b F.mag.length d, .int .i64 F.exp]), .bool true]
  d5 : On L 5 → v5 = (.agg #[.bool F.neg, .slice b F.mag.length d, .int .i64 F.exp])
  d6 : On L 6 → v6 = .bool true
  d7 : On L 7 → v7 = .pointer (some ⟨P, 0, none⟩)
  r7 : On L 7 → (∃ G o c, Hd w' P G o c) ∧ Fzr w' P ∧ W.heap.size ≤ P
  d8 : On L 8 → Hd w' P F b d
  d9 : On L 9 → v9 = .bool true
  c1 : On L 1 → On L 0
  c3 : On L 3 → On L 0 ∧ On L 1 ∧ On L 2
  c4 : On L 4 → On L 0 ∧ On L 1 ∧ On L 2 ∧ On L 3
  c5 : On L 5 → On L 0 ∧ On L 1 ∧ On L 2 ∧ On L 3 ∧ On L 4
  c6 : On L 6 → On L 0 ∧ On L 1 ∧ On L 2 ∧ On L 3 ∧ On L 4
  c8 : On L 8 → On L 0 ∧ On L 1 ∧ On L 2 ∧ On L 3 ∧ On L 4 ∧ On L 5 ∧ On L 7
  c9 : On L 9 → On L 0 ∧ On L 1 ∧ On L 2 ∧ On L 3 ∧ On L 4 ∧ On L 6
theorem hd_lt {w : World} {p : Nat} {G : Dy} {o : Option Addr} {c : Nat} (h : Hd w p G o c) : p < w.heap.size := World.block_lt_of_cell? w _ h.c0
theorem set_size (w : World) (p q r : Addr) (x y z : Value) : (((w.setCell p x).setCell q y).setCell r z).heap.size = w.heap.size := by simp [World.setCell]
set_option maxRecDepth 100000 in
set_option maxHeartbeats 8000000 in
theorem kept_walk (xs ys : List Nat) (ao : Option Addr) (cap K q : Nat) (D Z N A G E2 C : Dy) (Q X : Int) (w : World) (hT : TabW w) (hr : GRow w ao xs) (_hn : ys.length ≤ 200) (hq : (ys.length : Int) * (ys.length : Int) = (q : Int)) (hq2 : q ≤ 40000)
    (hys : ∀ W, GRow W ao xs → GRow W ao ys)
    (cc : ∀ W, GRow W ao xs → Calls Tryd.prog 8 #[.slice ao xs.length cap, .int .i64 960] W fun e w' => e = .returned (.tuple #[.slice ao ys.length cap, .bool true]) ∧ w' = W)
    (c2 : ∀ W, TabW W → GRow W ao ys → Calls Tryd.prog 10 #[.slice ao ys.length cap] W (GaveSum W D Z))
    (ck : ∀ W, GRow W ao ys → Calls Tryd.prog 28 #[.slice ao ys.length cap] W fun e w' => ∃ r, e = .returned (.float .f64 r) ∧ NR (some K) r ∧ Below W.heap.size W w')
    (cp : ∀ a c W, TabW W → LRow W a D.mag → Calls Tryd.prog 24 #[.float .f64 K, .agg #[.bool D.neg, .slice a D.mag.length c, .int .i64 D.exp]] W (GaveY W X))
    (cs : ∀ a c W, LRow W a D.mag → Calls Tryd.prog 29 #[.agg #[.bool D.neg, .slice a D.mag.length c, .int .i64 D.exp], .int .i64 0] W (GaveA1 W a Q))
    (cn : ∀ W, TabW W → Calls Tryd.prog 30 #[.int .i64 q] W (GaveD W N))
    (c52 : ∀ F, Fd F Q → ∀ a c W, LRow W a F.mag → Calls Tryd.prog 31 #[.agg #[.bool F.neg, .slice a F.mag.length c, .int .i64 F.exp], .int .i64 (-52)] W (Gave W (A, 0)))
    (cm : ∀ a c b d W, TabW W → LRow W a N.mag → LRow W b Z.mag → Calls Tryd.prog 17 #[.agg #[.bool N.neg, .slice a N.mag.length c, .int .i64 N.exp], .agg #[.bool Z.neg, .slice b Z.mag.length d, .int .i64 Z.exp]] W (Gave W (G, 0)))
    (c104 : ∀ a c W, LRow W a G.mag → Calls Tryd.prog 31 #[.agg #[.bool G.neg, .slice a G.mag.length c, .int .i64 G.exp], .int .i64 (-104)] W (Gave W (E2, 0)))
    (cadd : ∀ a c b d W, TabW W → LRow W a A.mag → LRow W b E2.mag → Calls Tryd.prog 32 #[.agg #[.bool A.neg, .slice a A.mag.length c, .int .i64 A.exp], .agg #[.bool E2.neg, .slice b E2.mag.length d, .int .i64 E2.exp]] W (Gave W (C, 0)))
    (cam : ∀ F, Fd F X → ∀ a c b d W, LRow W a F.mag → LRow W b C.mag → Calls Tryd.prog 26 #[.agg #[.bool F.neg, .slice a F.mag.length c, .int .i64 F.exp], .agg #[.bool C.neg, .slice b C.mag.length d, .int .i64 C.exp]] W fun e w' => e = .returned (.bool true) ∧ Below W.heap.size W w') :
    Calls Tryd.prog 6 #[.slice ao xs.length cap] w fun e w' => e = .returned (.bool true) ∧ Below w.heap.size w w' := by
  go_enter Tryd.func6, Tryd.ntmps6
  go_upto_if 25 with (first
    | (go_at_call 7; refine (uawake _ hT).mono ?_; rintro e w1 ⟨rfl, b1⟩)
    | (go_at_call 8; refine (cc _ (hr.below b1)).mono ?_; rintro e w' ⟨rfl, h'⟩; subst w'))
  have HB := b1
  have T1 := tabW_below hT HB
  replace hr := hys _ (hr.below b1)
  clear b1 hT cc hys
  go_upto_region 7 with (go_at_call 10; refine (c2 _ T1 hr).mono ?_; rintro e w2 ⟨oa, ca, ob, cb, rfl, ra, rb, b2⟩)
  obtain ⟨wc, hwc⟩ : ∃ V, (w2.alloc (.cells #[.bool D.neg, .slice oa D.mag.length ca, .int .i64 D.exp] 31)).alloc (.cells #[.bool Z.neg, .slice ob Z.mag.length cb, .int .i64 Z.exp] 31) = V := ⟨_, rfl⟩
  have HD : Hd wc w2.heap.size D oa ca := by rw [← hwc]; exact (Hd.new ra).below (bal _ _)
  have HZ : Hd wc (w2.heap.size + 1) Z ob cb := by
    have a2 := Hd.new (w := w2.alloc (.cells #[.bool D.neg, .slice oa D.mag.length ca, .int .i64 D.exp] 31)) (d := Z) (ao := ob) (cap := cb) (rb.alloc _)
    have e1 : (w2.alloc (.cells #[.bool D.neg, .slice oa D.mag.length ca, .int .i64 D.exp] 31)).heap.size = w2.heap.size + 1 := by go_simp
    rw [e1] at a2
    rw [← hwc]; exact a2
  have B2 : Below w1.heap.size w1 wc := by rw [← hwc]; exact bth3 (bth3 b2 (bal _ _)) (bal _ _)
  rw [hwc]
  replace HB := bth3 HB B2
  replace T1 := tabW_below T1 B2
  replace hr := hr.below B2
  clear hwc b2 c2 ra rb B2
  generalize w2.heap.size = PD at *
  refine region_inv (by kernel_rfl) (fun L a w' => ∃ v0 v1 v2 v3 v4 v5 v6 v7 v9 F b d P, a = ⟨#[(.slice ao ys.length cap), undef, (.bool false), (.bool true), (.pointer (some ⟨PD, 0, none⟩)), (.pointer (some ⟨PD + 1, 0, none⟩)), v7, v9, undef, undef, undef, undef, undef, undef, undef, undef, undef, (.bool true), (.bool false), (.tuple #[.slice ao ys.length cap, .bool true]), (.slice ao xs.length cap), (.tuple #[.slice ao ys.length cap, .bool true]), (.slice ao ys.length cap), (.bool true), (.bool true), (.bool false), (.tuple #[(.agg #[.bool D.neg, .slice oa D.mag.length ca, .int .i64 D.exp]), (.agg #[.bool Z.neg, .slice ob Z.mag.length cb, .int .i64 Z.exp]), .bool true]), (.slice ao ys.length cap), (.tuple #[(.agg #[.bool D.neg, .slice oa D.mag.length ca, .int .i64 D.exp]), (.agg #[.bool Z.neg, .slice ob Z.mag.length cb, .int .i64 Z.exp]), .bool true]), (.agg #[.bool D.neg, .slice oa D.mag.length ca, .int .i64 D.exp]), (.agg #[.bool Z.neg, .slice ob Z.mag.length cb, .int .i64 Z.exp]), (.bool true), v4, v0, v1, v2, v3, v5, v6, undef, undef, undef, undef, undef, undef, undef, undef, undef, undef, undef, undef, undef, undef, undef, undef, undef, undef, undef, undef, undef, undef, undef, undef, undef, undef, undef, undef, undef, undef, undef, undef, undef, undef, undef, undef, undef, undef, undef, undef, undef, undef, undef, undef, undef, undef, undef, undef, undef, undef, undef, undef, undef, undef, undef, undef, undef, undef], []⟩ ∧ KeS wc (.slice ao ys.length cap) K D oa ca X L w' v0 v1 v2 v3 v4 v5 v6 v7 v9 F b d P) ?_ ?_ ?_
  · refine ⟨undef, undef, undef, undef, undef, undef, undef, undef, undef, dy0, none, 0, 0, rfl, ?_⟩
    have nn : ∀ i, ¬ On (Array.replicate 10 false) i := fun i => on_none
    exact ⟨(Below.refl _ _).drew, fun h => absurd h (nn _), fun h => absurd h (nn _), fun h => absurd h (nn _), fun h => absurd h (nn _), fun h => absurd h (nn _), fun h => absurd h (nn _), fun h => absurd h (nn _), fun h => absurd h (nn _), fun h => absurd h (nn _), fun h => absurd h (nn _), fun h => absurd h (nn _), fun h => absurd h (nn _), fun h => absurd h (nn _), fun h => absurd h (nn _), fun h => absurd h (nn _), fun h => absurd h (nn _), fun h => absurd h (nn _), fun h => absurd h (nn _), fun h => absurd h (nn _)⟩
  · rintro L a w' i hL ⟨v0, v1, v2, v3, v4, v5, v6, v7, v9, F, b, d, P, rfl, hS⟩ hi
    obtain ⟨h1, h2, h3⟩ := mem_ready hi
    have h1 : i < 10 := h1
    have hL : L.size = 10 := hL
    have hno := not_on (by rw [hL]; exact h1) h2
    have ho := on_set (L := L) (i := i) (by rw [hL]; exact h1)
    have hcs : i = 0 ∨ i = 1 ∨ i = 2 ∨ i = 3 ∨ i = 4 ∨ i = 5 ∨ i = 6 ∨ i = 7 ∨ i = 8 ∨ i = 9 := by omega
    have o : ∀ k, k ≠ i → On (L.setIfInBounds i true) k → On L k := fun k hk h => ((ho k).1 h).resolve_left hk
    have bx7 : On L 7 → P < w'.heap.size := fun h => (hS.r7 h).1.elim fun G hG => hG.elim fun o' hO => hO.elim fun c' hc' => hd_lt hc'
    have hWw := hS.bel.size
    rcases hcs with rfl | rfl | rfl | rfl | rfl | rfl | rfl | rfl | rfl | rfl
    · refine wpOp_free (fun K hK => ?_)
      unfold wpOp
      go_simp
      refine Or.inl ?_
      refine hK _ _ ⟨_, _, _, _, _, _, _, _, _, F, b, d, P, rfl, ?_⟩
      exact ⟨hS.bel, fun _ => rfl, fun h => absurd (hS.c1 (o 1 (by decide) h)) hno, fun h => hS.d2 (o 2 (by decide) h), fun h => absurd ((hS.c3 (o 3 (by decide) h)).1) hno, fun h => absurd ((hS.c3 (o 3 (by decide) h)).1) hno, fun h => absurd ((hS.c4 (o 4 (by decide) h)).1) hno, fun h => absurd ((hS.c5 (o 5 (by decide) h)).1) hno, fun h => absurd ((hS.c6 (o 6 (by decide) h)).1) hno, fun h => hS.d7 (o 7 (by decide) h), fun h => ⟨((hS.r7 (o 7 (by decide) h)).1.elim fun G hG => hG.elim fun o' hO => hO.elim fun c' hc' => ⟨G, o', c', hc'⟩), (hS.r7 (o 7 (by decide) h)).2.1, (hS.r7 (o 7 (by decide) h)).2.2⟩, fun h => absurd ((hS.c8 (o 8 (by decide) h)).1) hno, fun h => absurd ((hS.c9 (o 9 (by decide) h)).1) hno, fun h => absurd (hS.c1 (o 1 (by decide) h)) hno, fun h => absurd ((hS.c3 (o 3 (by decide) h)).1) hno, fun h => absurd ((hS.c4 (o 4 (by decide) h)).1) hno, fun h => absurd ((hS.c5 (o 5 (by decide) h)).1) hno, fun h => absurd ((hS.c6 (o 6 (by decide) h)).1) hno, fun h => absurd ((hS.c8 (o 8 (by decide) h)).1) hno, fun h => absurd ((hS.c9 (o 9 (by decide) h)).1) hno⟩
    · have dn0 := ready_dep hi 0 (by kernel_rfl)
      obtain rfl := hS.d0 dn0
      refine wpOp_free (fun K hK => ?_)
      unfold wpOp
      go_simp
      refine Or.inl ?_
      refine (ck _ (hr.below hS.bel)).mono (fun e wq => ?_)
      rintro ⟨r', rfl, n', bq⟩
      obtain rfl := n'.2
      refine hK _ _ ⟨_, _, _, _, _, _, _, _, _, F, b, d, P, rfl, ?_⟩
      exact ⟨hS.bel.trans ((bq).mono hS.bel.size), fun h => hS.d0 (o 0 (by decide) h), fun _ => rfl, fun h => hS.d2 (o 2 (by decide) h), fun h => absurd ((hS.c3 (o 3 (by decide) h)).2.1) hno, fun h => absurd ((hS.c3 (o 3 (by decide) h)).2.1) hno, fun h => absurd ((hS.c4 (o 4 (by decide) h)).2.1) hno, fun h => absurd ((hS.c5 (o 5 (by decide) h)).2.1) hno, fun h => absurd ((hS.c6 (o 6 (by decide) h)).2.1) hno, fun h => hS.d7 (o 7 (by decide) h), fun h => ⟨((hS.r7 (o 7 (by decide) h)).1.elim fun G hG => hG.elim fun o' hO => hO.elim fun c' hc' => ⟨G, o', c', hc'.below bq⟩), (hS.r7 (o 7 (by decide) h)).2.1.below (bx7 (o 7 (by decide) h)) bq, (hS.r7 (o 7 (by decide) h)).2.2⟩, fun h => absurd ((hS.c8 (o 8 (by decide) h)).2.1) hno, fun h => absurd ((hS.c9 (o 9 (by decide) h)).2.1) hno, fun _ => (ho 0).2 (Or.inr (dn0)), fun h => absurd ((hS.c3 (o 3 (by decide) h)).2.1) hno, fun h => absurd ((hS.c4 (o 4 (by decide) h)).2.1) hno, fun h => absurd ((hS.c5 (o 5 (by decide) h)).2.1) hno, fun h => absurd ((hS.c6 (o 6 (by decide) h)).2.1) hno, fun h => absurd ((hS.c8 (o 8 (by decide) h)).2.1) hno, fun h => absurd ((hS.c9 (o 9 (by decide) h)).2.1) hno⟩
    · obtain ⟨a0, a1, a2, _⟩ := HD.below hS.bel
      refine wpOp_free (fun K hK => ?_)
      unfold wpOp
      go_simp
      refine Or.inl ?_
      refine hK _ _ ⟨_, _, _, _, _, _, _, _, _, F, b, d, P, rfl, ?_⟩
      exact ⟨hS.bel, fun h => hS.d0 (o 0 (by decide) h), fun h => hS.d1 (o 1 (by decide) h), fun _ => rfl, fun h => absurd ((hS.c3 (o 3 (by decide) h)).2.2) hno, fun h => absurd ((hS.c3 (o 3 (by decide) h)).2.2) hno, fun h => absurd ((hS.c4 (o 4 (by decide) h)).2.2.1) hno, fun h => absurd ((hS.c5 (o 5 (by decide) h)).2.2.1) hno, fun h => absurd ((hS.c6 (o 6 (by decide) h)).2.2.1) hno, fun h => hS.d7 (o 7 (by decide) h), fun h => ⟨((hS.r7 (o 7 (by decide) h)).1.elim fun G hG => hG.elim fun o' hO => hO.elim fun c' hc' => ⟨G, o', c', hc'⟩), (hS.r7 (o 7 (by decide) h)).2.1, (hS.r7 (o 7 (by decide) h)).2.2⟩, fun h => absurd ((hS.c8 (o 8 (by decide) h)).2.2.1) hno, fun h => absurd ((hS.c9 (o 9 (by decide) h)).2.2.1) hno, fun h => (ho 0).2 (Or.inr (hS.c1 (o 1 (by decide) h))), fun h => absurd ((hS.c3 (o 3 (by decide) h)).2.2) hno, fun h => absurd ((hS.c4 (o 4 (by decide) h)).2.2.1) hno, fun h => absurd ((hS.c5 (o 5 (by decide) h)).2.2.1) hno, fun h => absurd ((hS.c6 (o 6 (by decide) h)).2.2.1) hno, fun h => absurd ((hS.c8 (o 8 (by decide) h)).2.2.1) hno, fun h => absurd ((hS.c9 (o 9 (by decide) h)).2.2.1) hno⟩
    · have dn1 := ready_dep hi 1 (by kernel_rfl)
      have dn2 := ready_dep hi 2 (by kernel_rfl)
      obtain rfl := hS.d1 dn1
      obtain rfl := hS.d2 dn2
      refine wpOp_free (fun K hK => ?_)
      unfold wpOp
      go_simp
      refine Or.inl ?_
      refine (cp _ _ _ (tabW_below T1 hS.bel) (HD.below hS.bel).row).mono (fun e wq => ?_)
      rintro ⟨F', b'', d'', rfl, hF', r', nf, bq⟩
      have fresh : On (L.setIfInBounds 3 true) 7 → ∀ b1 off, b'' = some ⟨b1, off, none⟩ → F'.mag.length ≠ 0 → b1 ≠ P := fun h' b1 off e _ => (by have := bx7 (o 7 (by decide) h'); have := nf _ e; simp only at this; omega)
      refine hK _ _ ⟨_, _, _, _, _, _, _, _, _, F', b'', d'', P, rfl, ?_⟩
      exact ⟨hS.bel.trans ((bq).mono hS.bel.size), fun h => hS.d0 (o 0 (by decide) h), fun h => hS.d1 (o 1 (by decide) h), fun h => hS.d2 (o 2 (by decide) h), fun _ => rfl, fun _ => ⟨hF', r', fresh⟩, fun h => absurd ((hS.c4 (o 4 (by decide) h)).2.2.2) hno, fun h => absurd ((hS.c5 (o 5 (by decide) h)).2.2.2.1) hno, fun h => absurd ((hS.c6 (o 6 (by decide) h)).2.2.2.1) hno, fun h => hS.d7 (o 7 (by decide) h), fun h => ⟨((hS.r7 (o 7 (by decide) h)).1.elim fun G hG => hG.elim fun o' hO => hO.elim fun c' hc' => ⟨G, o', c', hc'.below bq⟩), (hS.r7 (o 7 (by decide) h)).2.1.below (bx7 (o 7 (by decide) h)) bq, (hS.r7 (o 7 (by decide) h)).2.2⟩, fun h => absurd ((hS.c8 (o 8 (by decide) h)).2.2.2.1) hno, fun h => absurd ((hS.c9 (o 9 (by decide) h)).2.2.2.1) hno, fun h => (ho 0).2 (Or.inr (hS.c1 (o 1 (by decide) h))), fun _ => ⟨(ho 0).2 (Or.inr (hS.c1 dn1)), (ho 1).2 (Or.inr (dn1)), (ho 2).2 (Or.inr (dn2))⟩, fun h => absurd ((hS.c4 (o 4 (by decide) h)).2.2.2) hno, fun h => absurd ((hS.c5 (o 5 (by decide) h)).2.2.2.1) hno, fun h => absurd ((hS.c6 (o 6 (by decide) h)).2.2.2.1) hno, fun h => absurd ((hS.c8 (o 8 (by decide) h)).2.2.2.1) hno, fun h => absurd ((hS.c9 (o 9 (by decide) h)).2.2.2.1) hno⟩
    · have dn3 := ready_dep hi 3 (by kernel_rfl)
      obtain rfl := hS.d3 dn3
      refine wpOp_free (fun K hK => ?_)
      unfold wpOp
      go_simp
      refine Or.inl ?_
      refine hK _ _ ⟨_, _, _, _, _, _, _, _, _, F, b, d, P, rfl, ?_⟩
      exact ⟨hS.bel, fun h => hS.d0 (o 0 (by decide) h), fun h => hS.d1 (o 1 (by decide) h), fun h => hS.d2 (o 2 (by decide) h), fun h => hS.d3 (o 3 (by decide) h), fun h => ⟨(hS.r3 (o 3 (by decide) h)).1, (hS.r3 (o 3 (by decide) h)).2.1, fun h' => (hS.r3 (o 3 (by decide) h)).2.2 (o 7 (by decide) h')⟩, fun _ => rfl, fun h => absurd ((hS.c5 (o 5 (by decide) h)).2.2.2.2) hno, fun h => absurd ((hS.c6 (o 6 (by decide) h)).2.2.2.2) hno, fun h => hS.d7 (o 7 (by decide) h), fun h => ⟨((hS.r7 (o 7 (by decide) h)).1.elim fun G hG => hG.elim fun o' hO => hO.elim fun c' hc' => ⟨G, o', c', hc'⟩), (hS.r7 (o 7 (by decide) h)).2.1, (hS.r7 (o 7 (by decide) h)).2.2⟩, fun h => absurd ((hS.c8 (o 8 (by decide) h)).2.2.2.2.1) hno, fun h => absurd ((hS.c9 (o 9 (by decide) h)).2.2.2.2.1) hno, fun h => (ho 0).2 (Or.inr (hS.c1 (o 1 (by decide) h))), fun h => ⟨(ho 0).2 (Or.inr ((hS.c3 (o 3 (by decide) h)).1)), (ho 1).2 (Or.inr ((hS.c3 (o 3 (by decide) h)).2.1)), (ho 2).2 (Or.inr ((hS.c3 (o 3 (by decide) h)).2.2))⟩, fun _ => ⟨(ho 0).2 (Or.inr ((hS.c3 dn3).1)), (ho 1).2 (Or.inr ((hS.c3 dn3).2.1)), (ho 2).2 (Or.inr ((hS.c3 dn3).2.2)), (ho 3).2 (Or.inr (dn3))⟩, fun h => absurd ((hS.c5 (o 5 (by decide) h)).2.2.2.2) hno, fun h => absurd ((hS.c6 (o 6 (by decide) h)).2.2.2.2) hno, fun h => absurd ((hS.c8 (o 8 (by decide) h)).2.2.2.2.1) hno, fun h => absurd ((hS.c9 (o 9 (by decide) h)).2.2.2.2.1) hno⟩
    · have dn4 := ready_dep hi 4 (by kernel_rfl)
      obtain rfl := hS.d4 dn4
      refine wpOp_free (fun K hK => ?_)
      unfold wpOp
      go_simp
      refine Or.inl ?_
      refine hK _ _ ⟨_, _, _, _, _, _, _, _, _, F, b, d, P, rfl, ?_⟩
      exact ⟨hS.bel, fun h => hS.d0 (o 0 (by decide) h), fun h => hS.d1 (o 1 (by decide) h), fun h => hS.d2 (o 2 (by decide) h), fun h => hS.d3 (o 3 (by decide) h), fun h => ⟨(hS.r3 (o 3 (by decide) h)).1, (hS.r3 (o 3 (by decide) h)).2.1, fun h' => (hS.r3 (o 3 (by decide) h)).2.2 (o 7 (by decide) h')⟩, fun h => hS.d4 (o 4 (by decide) h), fun _ => rfl, fun h => hS.d6 (o 6 (by decide) h), fun h => hS.d7 (o 7 (by decide) h), fun h => ⟨((hS.r7 (o 7 (by decide) h)).1.elim fun G hG => hG.elim fun o' hO => hO.elim fun c' hc' => ⟨G, o', c', hc'⟩), (hS.r7 (o 7 (by decide) h)).2.1, (hS.r7 (o 7 (by decide) h)).2.2⟩, fun h => absurd ((hS.c8 (o 8 (by decide) h)).2.2.2.2.2.1) hno, fun h => hS.d9 (o 9 (by decide) h), fun h => (ho 0).2 (Or.inr (hS.c1 (o 1 (by decide) h))), fun h => ⟨(ho 0).2 (Or.inr ((hS.c3 (o 3 (by decide) h)).1)), (ho 1).2 (Or.inr ((hS.c3 (o 3 (by decide) h)).2.1)), (ho 2).2 (Or.inr ((hS.c3 (o 3 (by decide) h)).2.2))⟩, fun h => ⟨(ho 0).2 (Or.inr ((hS.c4 (o 4 (by decide) h)).1)), (ho 1).2 (Or.inr ((hS.c4 (o 4 (by decide) h)).2.1)), (ho 2).2 (Or.inr ((hS.c4 (o 4 (by decide) h)).2.2.1)), (ho 3).2 (Or.inr ((hS.c4 (o 4 (by decide) h)).2.2.2))⟩, fun _ => ⟨(ho 0).2 (Or.inr ((hS.c4 dn4).1)), (ho 1).2 (Or.inr ((hS.c4 dn4).2.1)), (ho 2).2 (Or.inr ((hS.c4 dn4).2.2.1)), (ho 3).2 (Or.inr ((hS.c4 dn4).2.2.2)), (ho 4).2 (Or.inr (dn4))⟩, fun h => ⟨(ho 0).2 (Or.inr ((hS.c6 (o 6 (by decide) h)).1)), (ho 1).2 (Or.inr ((hS.c6 (o 6 (by decide) h)).2.1)), (ho 2).2 (Or.inr ((hS.c6 (o 6 (by decide) h)).2.2.1)), (ho 3).2 (Or.inr ((hS.c6 (o 6 (by decide) h)).2.2.2.1)), (ho 4).2 (Or.inr ((hS.c6 (o 6 (by decide) h)).2.2.2.2))⟩, fun h => absurd ((hS.c8 (o 8 (by decide) h)).2.2.2.2.2.1) hno, fun h => ⟨(ho 0).2 (Or.inr ((hS.c9 (o 9 (by decide) h)).1)), (ho 1).2 (Or.inr ((hS.c9 (o 9 (by decide) h)).2.1)), (ho 2).2 (Or.inr ((hS.c9 (o 9 (by decide) h)).2.2.1)), (ho 3).2 (Or.inr ((hS.c9 (o 9 (by decide) h)).2.2.2.1)), (ho 4).2 (Or.inr ((hS.c9 (o 9 (by decide) h)).2.2.2.2.1)), (ho 6).2 (Or.inr ((hS.c9 (o 9 (by decide) h)).2.2.2.2.2))⟩⟩
    · have dn4 := ready_dep hi 4 (by kernel_rfl)
      obtain rfl := hS.d4 dn4
      refine wpOp_free (fun K hK => ?_)
      unfold wpOp
      go_simp
      refine Or.inl ?_
      refine hK _ _ ⟨_, _, _, _, _, _, _, _, _, F, b, d, P, rfl, ?_⟩
      exact ⟨hS.bel, fun h => hS.d0 (o 0 (by decide) h), fun h => hS.d1 (o 1 (by decide) h), fun h => hS.d2 (o 2 (by decide) h), fun h => hS.d3 (o 3 (by decide) h), fun h => ⟨(hS.r3 (o 3 (by decide) h)).1, (hS.r3 (o 3 (by decide) h)).2.1, fun h' => (hS.r3 (o 3 (by decide) h)).2.2 (o 7 (by decide) h')⟩, fun h => hS.d4 (o 4 (by decide) h), fun h => hS.d5 (o 5 (by decide) h), fun _ => rfl, fun h => hS.d7 (o 7 (by decide) h), fun h => ⟨((hS.r7 (o 7 (by decide) h)).1.elim fun G hG => hG.elim fun o' hO => hO.elim fun c' hc' => ⟨G, o', c', hc'⟩), (hS.r7 (o 7 (by decide) h)).2.1, (hS.r7 (o 7 (by decide) h)).2.2⟩, fun h => hS.d8 (o 8 (by decide) h), fun h => absurd ((hS.c9 (o 9 (by decide) h)).2.2.2.2.2) hno, fun h => (ho 0).2 (Or.inr (hS.c1 (o 1 (by decide) h))), fun h => ⟨(ho 0).2 (Or.inr ((hS.c3 (o 3 (by decide) h)).1)), (ho 1).2 (Or.inr ((hS.c3 (o 3 (by decide) h)).2.1)), (ho 2).2 (Or.inr ((hS.c3 (o 3 (by decide) h)).2.2))⟩, fun h => ⟨(ho 0).2 (Or.inr ((hS.c4 (o 4 (by decide) h)).1)), (ho 1).2 (Or.inr ((hS.c4 (o 4 (by decide) h)).2.1)), (ho 2).2 (Or.inr ((hS.c4 (o 4 (by decide) h)).2.2.1)), (ho 3).2 (Or.inr ((hS.c4 (o 4 (by decide) h)).2.2.2))⟩, fun h => ⟨(ho 0).2 (Or.inr ((hS.c5 (o 5 (by decide) h)).1)), (ho 1).2 (Or.inr ((hS.c5 (o 5 (by decide) h)).2.1)), (ho 2).2 (Or.inr ((hS.c5 (o 5 (by decide) h)).2.2.1)), (ho 3).2 (Or.inr ((hS.c5 (o 5 (by decide) h)).2.2.2.1)), (ho 4).2 (Or.inr ((hS.c5 (o 5 (by decide) h)).2.2.2.2))⟩, fun _ => ⟨(ho 0).2 (Or.inr ((hS.c4 dn4).1)), (ho 1).2 (Or.inr ((hS.c4 dn4).2.1)), (ho 2).2 (Or.inr ((hS.c4 dn4).2.2.1)), (ho 3).2 (Or.inr ((hS.c4 dn4).2.2.2)), (ho 4).2 (Or.inr (dn4))⟩, fun h => ⟨(ho 0).2 (Or.inr ((hS.c8 (o 8 (by decide) h)).1)), (ho 1).2 (Or.inr ((hS.c8 (o 8 (by decide) h)).2.1)), (ho 2).2 (Or.inr ((hS.c8 (o 8 (by decide) h)).2.2.1)), (ho 3).2 (Or.inr ((hS.c8 (o 8 (by decide) h)).2.2.2.1)), (ho 4).2 (Or.inr ((hS.c8 (o 8 (by decide) h)).2.2.2.2.1)), (ho 5).2 (Or.inr ((hS.c8 (o 8 (by decide) h)).2.2.2.2.2.1)), (ho 7).2 (Or.inr ((hS.c8 (o 8 (by decide) h)).2.2.2.2.2.2))⟩, fun h => absurd ((hS.c9 (o 9 (by decide) h)).2.2.2.2.2) hno⟩
    · refine wpOp_free (fun K hK => ?_)
      unfold wpOp
      go_simp
      refine Or.inl ?_
      refine hK _ _ ⟨_, _, _, _, _, _, _, _, _, F, b, d, w'.heap.size, rfl, ?_⟩
      exact ⟨hS.bel.trans (((bal _ _)).mono hS.bel.size), fun h => hS.d0 (o 0 (by decide) h), fun h => hS.d1 (o 1 (by decide) h), fun h => hS.d2 (o 2 (by decide) h), fun h => hS.d3 (o 3 (by decide) h), fun h => ⟨(hS.r3 (o 3 (by decide) h)).1, (hS.r3 (o 3 (by decide) h)).2.1.below (bal _ _), fun _ b' off e l => Nat.ne_of_lt (row_lt (hS.r3 (o 3 (by decide) h)).2.1 b' off e l)⟩, fun h => hS.d4 (o 4 (by decide) h), fun h => hS.d5 (o 5 (by decide) h), fun h => hS.d6 (o 6 (by decide) h), fun _ => rfl, fun _ => ⟨⟨dy0, none, 0, Hd.new (d := dy0) (Or.inl rfl)⟩, fz_new _ _ _ _, hWw⟩, fun h => absurd ((hS.c8 (o 8 (by decide) h)).2.2.2.2.2.2) hno, fun h => hS.d9 (o 9 (by decide) h), fun h => (ho 0).2 (Or.inr (hS.c1 (o 1 (by decide) h))), fun h => ⟨(ho 0).2 (Or.inr ((hS.c3 (o 3 (by decide) h)).1)), (ho 1).2 (Or.inr ((hS.c3 (o 3 (by decide) h)).2.1)), (ho 2).2 (Or.inr ((hS.c3 (o 3 (by decide) h)).2.2))⟩, fun h => ⟨(ho 0).2 (Or.inr ((hS.c4 (o 4 (by decide) h)).1)), (ho 1).2 (Or.inr ((hS.c4 (o 4 (by decide) h)).2.1)), (ho 2).2 (Or.inr ((hS.c4 (o 4 (by decide) h)).2.2.1)), (ho 3).2 (Or.inr ((hS.c4 (o 4 (by decide) h)).2.2.2))⟩, fun h => ⟨(ho 0).2 (Or.inr ((hS.c5 (o 5 (by decide) h)).1)), (ho 1).2 (Or.inr ((hS.c5 (o 5 (by decide) h)).2.1)), (ho 2).2 (Or.inr ((hS.c5 (o 5 (by decide) h)).2.2.1)), (ho 3).2 (Or.inr ((hS.c5 (o 5 (by decide) h)).2.2.2.1)), (ho 4).2 (Or.inr ((hS.c5 (o 5 (by decide) h)).2.2.2.2))⟩, fun h => ⟨(ho 0).2 (Or.inr ((hS.c6 (o 6 (by decide) h)).1)), (ho 1).2 (Or.inr ((hS.c6 (o 6 (by decide) h)).2.1)), (ho 2).2 (Or.inr ((hS.c6 (o 6 (by decide) h)).2.2.1)), (ho 3).2 (Or.inr ((hS.c6 (o 6 (by decide) h)).2.2.2.1)), (ho 4).2 (Or.inr ((hS.c6 (o 6 (by decide) h)).2.2.2.2))⟩, fun h => absurd ((hS.c8 (o 8 (by decide) h)).2.2.2.2.2.2) hno, fun h => ⟨(ho 0).2 (Or.inr ((hS.c9 (o 9 (by decide) h)).1)), (ho 1).2 (Or.inr ((hS.c9 (o 9 (by decide) h)).2.1)), (ho 2).2 (Or.inr ((hS.c9 (o 9 (by decide) h)).2.2.1)), (ho 3).2 (Or.inr ((hS.c9 (o 9 (by decide) h)).2.2.2.1)), (ho 4).2 (Or.inr ((hS.c9 (o 9 (by decide) h)).2.2.2.2.1)), (ho 6).2 (Or.inr ((hS.c9 (o 9 (by decide) h)).2.2.2.2.2))⟩⟩
    · have dn5 := ready_dep hi 5 (by kernel_rfl)
      have dn7 := ready_dep hi 7 (by kernel_rfl)
      have dn3 := (hS.c5 dn5).2.2.2.1
      obtain ⟨⟨G, o', c', hbx⟩, hz, hWP⟩ := hS.r7 dn7
      obtain ⟨_, hrow, hnP⟩ := hS.r3 dn3
      have nP := hnP dn7
      have hput := put3n (c := d) hbx hrow nP
      have sb := ((hS.bel.setCell (p := ⟨P, 0, none⟩) hWP (.bool F.neg)).setCell (p := ⟨P, 1, none⟩) hWP (.slice b F.mag.length d)).setCell (p := ⟨P, 2, none⟩) hWP (.int .i64 F.exp)
      obtain rfl := hS.d5 dn5
      obtain rfl := hS.d7 dn7
      obtain ⟨c0, c1, c2, _⟩ := id hbx
      obtain ⟨f0, f1, f2⟩ := id hz
      refine wpOp_free (fun K hK => ?_)
      unfold wpOp
      go_simp
      refine Or.inl ?_
      refine hK _ _ ⟨_, _, _, _, _, _, _, _, _, F, b, d, P, rfl, ?_⟩
      exact ⟨sb, fun h => hS.d0 (o 0 (by decide) h), fun h => hS.d1 (o 1 (by decide) h), fun h => hS.d2 (o 2 (by decide) h), fun h => hS.d3 (o 3 (by decide) h), fun h => ⟨(hS.r3 (o 3 (by decide) h)).1, ((((hS.r3 (o 3 (by decide) h)).2.1.setCell _ nP).setCell _ nP).setCell _ nP), fun h' => (hS.r3 (o 3 (by decide) h)).2.2 (o 7 (by decide) h')⟩, fun h => hS.d4 (o 4 (by decide) h), fun h => hS.d5 (o 5 (by decide) h), fun h => hS.d6 (o 6 (by decide) h), fun h => hS.d7 (o 7 (by decide) h), fun h => ⟨⟨_, _, _, hput⟩, (hS.r7 (o 7 (by decide) h)).2.1.set _ _ _ _, (hS.r7 (o 7 (by decide) h)).2.2⟩, fun _ => hput, fun h => hS.d9 (o 9 (by decide) h), fun h => (ho 0).2 (Or.inr (hS.c1 (o 1 (by decide) h))), fun h => ⟨(ho 0).2 (Or.inr ((hS.c3 (o 3 (by decide) h)).1)), (ho 1).2 (Or.inr ((hS.c3 (o 3 (by decide) h)).2.1)), (ho 2).2 (Or.inr ((hS.c3 (o 3 (by decide) h)).2.2))⟩, fun h => ⟨(ho 0).2 (Or.inr ((hS.c4 (o 4 (by decide) h)).1)), (ho 1).2 (Or.inr ((hS.c4 (o 4 (by decide) h)).2.1)), (ho 2).2 (Or.inr ((hS.c4 (o 4 (by decide) h)).2.2.1)), (ho 3).2 (Or.inr ((hS.c4 (o 4 (by decide) h)).2.2.2))⟩, fun h => ⟨(ho 0).2 (Or.inr ((hS.c5 (o 5 (by decide) h)).1)), (ho 1).2 (Or.inr ((hS.c5 (o 5 (by decide) h)).2.1)), (ho 2).2 (Or.inr ((hS.c5 (o 5 (by decide) h)).2.2.1)), (ho 3).2 (Or.inr ((hS.c5 (o 5 (by decide) h)).2.2.2.1)), (ho 4).2 (Or.inr ((hS.c5 (o 5 (by decide) h)).2.2.2.2))⟩, fun h => ⟨(ho 0).2 (Or.inr ((hS.c6 (o 6 (by decide) h)).1)), (ho 1).2 (Or.inr ((hS.c6 (o 6 (by decide) h)).2.1)), (ho 2).2 (Or.inr ((hS.c6 (o 6 (by decide) h)).2.2.1)), (ho 3).2 (Or.inr ((hS.c6 (o 6 (by decide) h)).2.2.2.1)), (ho 4).2 (Or.inr ((hS.c6 (o 6 (by decide) h)).2.2.2.2))⟩, fun _ => ⟨(ho 0).2 (Or.inr ((hS.c5 dn5).1)), (ho 1).2 (Or.inr ((hS.c5 dn5).2.1)), (ho 2).2 (Or.inr ((hS.c5 dn5).2.2.1)), (ho 3).2 (Or.inr ((hS.c5 dn5).2.2.2.1)), (ho 4).2 (Or.inr ((hS.c5 dn5).2.2.2.2)), (ho 5).2 (Or.inr (dn5)), (ho 7).2 (Or.inr (dn7))⟩, fun h => ⟨(ho 0).2 (Or.inr ((hS.c9 (o 9 (by decide) h)).1)), (ho 1).2 (Or.inr ((hS.c9 (o 9 (by decide) h)).2.1)), (ho 2).2 (Or.inr ((hS.c9 (o 9 (by decide) h)).2.2.1)), (ho 3).2 (Or.inr ((hS.c9 (o 9 (by decide) h)).2.2.2.1)), (ho 4).2 (Or.inr ((hS.c9 (o 9 (by decide) h)).2.2.2.2.1)), (ho 6).2 (Or.inr ((hS.c9 (o 9 (by decide) h)).2.2.2.2.2))⟩⟩
    · have dn6 := ready_dep hi 6 (by kernel_rfl)
      obtain rfl := hS.d6 dn6
      refine wpOp_free (fun K hK => ?_)
      unfold wpOp
      go_simp
      refine Or.inl ?_
      refine hK _ _ ⟨_, _, _, _, _, _, _, _, _, F, b, d, P, rfl, ?_⟩
      exact ⟨hS.bel, fun h => hS.d0 (o 0 (by decide) h), fun h => hS.d1 (o 1 (by decide) h), fun h => hS.d2 (o 2 (by decide) h), fun h => hS.d3 (o 3 (by decide) h), fun h => ⟨(hS.r3 (o 3 (by decide) h)).1, (hS.r3 (o 3 (by decide) h)).2.1, fun h' => (hS.r3 (o 3 (by decide) h)).2.2 (o 7 (by decide) h')⟩, fun h => hS.d4 (o 4 (by decide) h), fun h => hS.d5 (o 5 (by decide) h), fun h => hS.d6 (o 6 (by decide) h), fun h => hS.d7 (o 7 (by decide) h), fun h => ⟨((hS.r7 (o 7 (by decide) h)).1.elim fun G hG => hG.elim fun o' hO => hO.elim fun c' hc' => ⟨G, o', c', hc'⟩), (hS.r7 (o 7 (by decide) h)).2.1, (hS.r7 (o 7 (by decide) h)).2.2⟩, fun h => hS.d8 (o 8 (by decide) h), fun _ => rfl, fun h => (ho 0).2 (Or.inr (hS.c1 (o 1 (by decide) h))), fun h => ⟨(ho 0).2 (Or.inr ((hS.c3 (o 3 (by decide) h)).1)), (ho 1).2 (Or.inr ((hS.c3 (o 3 (by decide) h)).2.1)), (ho 2).2 (Or.inr ((hS.c3 (o 3 (by decide) h)).2.2))⟩, fun h => ⟨(ho 0).2 (Or.inr ((hS.c4 (o 4 (by decide) h)).1)), (ho 1).2 (Or.inr ((hS.c4 (o 4 (by decide) h)).2.1)), (ho 2).2 (Or.inr ((hS.c4 (o 4 (by decide) h)).2.2.1)), (ho 3).2 (Or.inr ((hS.c4 (o 4 (by decide) h)).2.2.2))⟩, fun h => ⟨(ho 0).2 (Or.inr ((hS.c5 (o 5 (by decide) h)).1)), (ho 1).2 (Or.inr ((hS.c5 (o 5 (by decide) h)).2.1)), (ho 2).2 (Or.inr ((hS.c5 (o 5 (by decide) h)).2.2.1)), (ho 3).2 (Or.inr ((hS.c5 (o 5 (by decide) h)).2.2.2.1)), (ho 4).2 (Or.inr ((hS.c5 (o 5 (by decide) h)).2.2.2.2))⟩, fun h => ⟨(ho 0).2 (Or.inr ((hS.c6 (o 6 (by decide) h)).1)), (ho 1).2 (Or.inr ((hS.c6 (o 6 (by decide) h)).2.1)), (ho 2).2 (Or.inr ((hS.c6 (o 6 (by decide) h)).2.2.1)), (ho 3).2 (Or.inr ((hS.c6 (o 6 (by decide) h)).2.2.2.1)), (ho 4).2 (Or.inr ((hS.c6 (o 6 (by decide) h)).2.2.2.2))⟩, fun h => ⟨(ho 0).2 (Or.inr ((hS.c8 (o 8 (by decide) h)).1)), (ho 1).2 (Or.inr ((hS.c8 (o 8 (by decide) h)).2.1)), (ho 2).2 (Or.inr ((hS.c8 (o 8 (by decide) h)).2.2.1)), (ho 3).2 (Or.inr ((hS.c8 (o 8 (by decide) h)).2.2.2.1)), (ho 4).2 (Or.inr ((hS.c8 (o 8 (by decide) h)).2.2.2.2.1)), (ho 5).2 (Or.inr ((hS.c8 (o 8 (by decide) h)).2.2.2.2.2.1)), (ho 7).2 (Or.inr ((hS.c8 (o 8 (by decide) h)).2.2.2.2.2.2))⟩, fun _ => ⟨(ho 0).2 (Or.inr ((hS.c6 dn6).1)), (ho 1).2 (Or.inr ((hS.c6 dn6).2.1)), (ho 2).2 (Or.inr ((hS.c6 dn6).2.2.1)), (ho 3).2 (Or.inr ((hS.c6 dn6).2.2.2.1)), (ho 4).2 (Or.inr ((hS.c6 dn6).2.2.2.2)), (ho 6).2 (Or.inr (dn6))⟩⟩
  · rintro L a w' hL ⟨v0, v1, v2, v3, v4, v5, v6, v7, v9, F, b, d, P, rfl, hS⟩ hnone
    have hd := all_done hL hnone (by kernel_rfl)
    have o := fun i (h : i < 10) => hd i h
    obtain rfl := hS.d0 (o 0 (by omega))
    obtain rfl := hS.d1 (o 1 (by omega))
    obtain rfl := hS.d2 (o 2 (by omega))
    obtain rfl := hS.d3 (o 3 (by omega))
    obtain rfl := hS.d4 (o 4 (by omega))
    obtain rfl := hS.d5 (o 5 (by omega))
    obtain rfl := hS.d6 (o 6 (by omega))
    obtain rfl := hS.d7 (o 7 (by omega))
    obtain rfl := hS.d9 (o 9 (by omega))
    obtain ⟨FX, _, _⟩ := hS.r3 (o 3 (by omega))
    have HF := hS.d8 (o 8 (by omega))
    have bel := hS.bel
    clear hd o hS hnone hL ck cp
    replace HB := bth3 HB bel
    replace T1 := tabW_below T1 bel
    replace HD := HD.below bel
    replace HZ := HZ.below bel
    clear bel hr
    obtain ⟨p0, p1, p2, pr⟩ := id HD
    go_upto_region 9 with (go_at_call 29; refine (cs _ _ _ pr).mono ?_; rintro e w3 ⟨E, oe, ce, rfl, hE, re, _, b3⟩)
    obtain ⟨V3, hV⟩ : ∃ V, w3.alloc (.cells #[.bool E.neg, .slice oe E.mag.length ce, .int .i64 E.exp] 31) = V := ⟨_, rfl⟩
    have BV : Below w'.heap.size w' V3 := by rw [← hV]; exact bth3 b3 (bal _ _)
    have HE : Hd V3 w3.heap.size E oe ce := by rw [← hV]; exact Hd.new re
    rw [hV]
    replace HB := bth3 HB BV
    replace T1 := tabW_below T1 BV
    replace HF := HF.below BV
    replace HZ := HZ.below BV
    clear hV BV b3 re cs p0 p1 p2 pr HD
    generalize w3.heap.size = PE at *
    go_upto_region 12 with (go_at_call 30; refine (cn _ T1).mono ?_; rintro e w4 ⟨on, kn, rfl, rn, _, b4⟩)
    obtain ⟨V4, hV⟩ : ∃ V, w4.alloc (.cells #[.bool N.neg, .slice on N.mag.length kn, .int .i64 N.exp] 31) = V := ⟨_, rfl⟩
    have BV : Below V3.heap.size V3 V4 := by rw [← hV]; exact bth3 b4 (bal _ _)
    have HN : Hd V4 w4.heap.size N on kn := by rw [← hV]; exact Hd.new rn
    rw [hV]
    replace HB := bth3 HB BV
    replace T1 := tabW_below T1 BV
    replace HF := HF.below BV
    replace HZ := HZ.below BV
    replace HE := HE.below BV
    clear hV BV b4 rn cn
    generalize w4.heap.size = PN at *
    obtain ⟨p0, p1, p2, pr⟩ := id HE
    go_upto_region 13 with (go_at_call 31; refine (c52 E hE _ _ _ pr).mono ?_; rintro e w5 ⟨o5, k5, rfl, r5, _, b5⟩)
    obtain ⟨V5, hV⟩ : ∃ V, w5.alloc (.cells #[.bool A.neg, .slice o5 A.mag.length k5, .int .i64 A.exp] 31) = V := ⟨_, rfl⟩
    have BV : Below V4.heap.size V4 V5 := by rw [← hV]; exact bth3 b5 (bal _ _)
    have HA : Hd V5 w5.heap.size A o5 k5 := by rw [← hV]; exact Hd.new r5
    rw [hV]
    replace HB := bth3 HB BV
    replace T1 := tabW_below T1 BV
    replace HF := HF.below BV
    replace HZ := HZ.below BV
    replace HN := HN.below BV
    clear hV BV b5 r5 c52 p0 p1 p2 pr HE hE
    generalize w5.heap.size = PA at *
    obtain ⟨p0, p1, p2, pr⟩ := id HN
    obtain ⟨z0, z1, z2, zr⟩ := id HZ
    go_upto_region 14 with (go_at_call 17; refine (cm _ _ _ _ _ T1 pr zr).mono ?_; rintro e w6 ⟨o6, k6, rfl, r6, _, b6⟩)
    obtain ⟨V6, hV⟩ : ∃ V, w6.alloc (.cells #[.bool G.neg, .slice o6 G.mag.length k6, .int .i64 G.exp] 31) = V := ⟨_, rfl⟩
    have BV : Below V5.heap.size V5 V6 := by rw [← hV]; exact bth3 b6 (bal _ _)
    have HG : Hd V6 w6.heap.size G o6 k6 := by rw [← hV]; exact Hd.new r6
    have HF0 := HF
    have HA0 := HA
    have HB0 := HB
    have T0 := T1
    have B56 := BV
    have hPB : V5.heap.size ≤ w6.heap.size := b6.size
    have ZB : Fzr V6 w6.heap.size := by rw [← hV]; exact fz_new _ _ _ _
    rw [hV]
    replace HB := bth3 HB BV
    replace T1 := tabW_below T1 BV
    replace HF := HF.below BV
    replace HA := HA.below BV
    clear hV BV b6 r6 cm p0 p1 p2 pr z0 z1 z2 zr HN HZ
    generalize w6.heap.size = PB at *
    obtain ⟨p0, p1, p2, pr⟩ := id HG
    have hlt := hd_lt HG
    go_upto_region 19 with (go_at_call 31; refine (c104 _ _ _ pr).mono ?_; rintro e w7 ⟨o7, k7, rfl, r7, f7, b7⟩; have HG7 := HG.below b7; have ZB7 := ZB.below hlt b7; obtain ⟨y0, y1, y2, _⟩ := id HG7; obtain ⟨z0, z1, z2⟩ := id ZB7)
    have HE2 := (put3r (c := k7) HG7 ZB7 r7 f7 hlt).1
    have BV : Below V5.heap.size V5 (((w7.setCell ⟨PB, 0, none⟩ (.bool E2.neg)).setCell ⟨PB, 1, none⟩ (.slice o7 E2.mag.length k7)).setCell ⟨PB, 2, none⟩ (.int .i64 E2.exp)) := (((bth3 B56 b7).setCell (p := ⟨PB, 0, none⟩) hPB _).setCell (p := ⟨PB, 1, none⟩) hPB _).setCell (p := ⟨PB, 2, none⟩) hPB _
    clear HG ZB p0 p1 p2 pr y0 y1 y2 z0 z1 z2 HG7 ZB7 r7 f7 b7 hlt c104 B56 HB T1 HF HA
    generalize (((w7.setCell ⟨PB, 0, none⟩ (.bool E2.neg)).setCell ⟨PB, 1, none⟩ (.slice o7 E2.mag.length k7)).setCell ⟨PB, 2, none⟩ (.int .i64 E2.exp)) = V7 at *
    have HB := bth3 HB0 BV
    have T1 := tabW_below T0 BV
    have HF := HF0.below BV
    have HA := HA0.below BV
    clear HB0 T0 HF0 HA0 BV hPB
    obtain ⟨p0, p1, p2, pr⟩ := id HA
    obtain ⟨z0, z1, z2, zr⟩ := id HE2
    go_upto_region 20 with (go_at_call 32; refine (cadd _ _ _ _ _ T1 pr zr).mono ?_; rintro e w8 ⟨o8, k8, rfl, r8, _, b8⟩)
    obtain ⟨V8, hV⟩ : ∃ V, w8.alloc (.cells #[.bool C.neg, .slice o8 C.mag.length k8, .int .i64 C.exp] 31) = V := ⟨_, rfl⟩
    have BV : Below V7.heap.size V7 V8 := by rw [← hV]; exact bth3 b8 (bal _ _)
    have HC : Hd V8 w8.heap.size C o8 k8 := by rw [← hV]; exact Hd.new r8
    rw [hV]
    replace HB := bth3 HB BV
    replace HF := HF.below BV
    clear hV BV b8 r8 cadd p0 p1 p2 pr z0 z1 z2 zr HA HE2 T1
    generalize w8.heap.size = PC at *
    obtain ⟨p0, p1, p2, pr⟩ := id HF
    obtain ⟨z0, z1, z2, zr⟩ := id HC
    go_wp2_with (go_at_call 26; refine (cam F FX _ _ _ _ _ pr zr).mono ?_; rintro e w9 ⟨rfl, b9⟩)
    go_ret
    exact ⟨rfl, bth3 HB b9⟩
set_option maxRecDepth 100000 in
set_option maxHeartbeats 4000000 in
theorem kept_law (xs : List Nat) (ao : Option Addr) (cap : Nat) (w : World) (hT : TabW w) (hr : GRow w ao xs) (hF : FW xs) (hl : xs.length ≤ cap) (hc : cap ≤ 1125899906842624) :
    Calls Tryd.prog 6 #[.slice ao xs.length cap] w fun e w' => e = .returned (.bool true) ∧ Below w.heap.size w w' := by
  have cc := fun W h => lcut_long xs ao cap 960 8930638061075693568 W h hF hl hc (by decide) (ldexp_pow 960 8930638061075693568 (by decide) (by decide) (by decide))
  cases ok : ((xs.take 200).all fun x => decide (rung x < 8930638061075693568))
  · rw [ok] at cc
    clear ok
    generalize xs.take 200 = ys at *
    go_enter Tryd.func6, Tryd.ntmps6
    go_wp2_with (first
      | (go_at_call 7; refine (uawake _ hT).mono ?_; rintro e w1 ⟨rfl, b1⟩)
      | (go_at_call 8; refine (cc _ (hr.below b1)).mono ?_; rintro e w' ⟨rfl, h'⟩; subst w'))
    go_ret
    exact ⟨rfl, b1⟩
  · rw [ok] at cc
    have hF2 := hF.take 200
    have hn : (xs.take 200).length ≤ 200 := by rw [List.length_take]; omega
    have hys : ∀ W, GRow W ao xs → GRow W ao (xs.take 200) := fun W h => h.take 200
    generalize xs.take 200 = ys at *
    obtain ⟨Wt, hW⟩ : ∃ Wt, IsTop Wt := ⟨_, rfl⟩
    obtain ⟨hf, hA⟩ := small_all hn ok hW
    obtain ⟨K, eK, hK, fK, hB2⟩ := kept_final hW rfl hn hF2 hf hA
    have e7 : sI ys ys.length = lv ys := by rw [sI_lv ys _ (Nat.le_refl _), List.take_length]
    have FD := sD_fd hn hf
    have hz := sizes_fin hf
    have hlz : (ys.map rung).length = ys.length := List.length_map _
    have FZ := sD_fd (ys := ys.map rung) (by rw [hlz]; exact hn) hz
    have zs := sI_small (ys := ys.map rung) (by rw [hlz]; exact hn) hz (V := 2106) rfl
    rw [hlz, sI_la ys _ (Nat.le_refl _), List.take_length] at FZ zs
    rw [← e7] at hB2
    obtain ⟨U, hU⟩ : ∃ U : Nat, U = 2106 := ⟨_, rfl⟩
    rw [← hU] at zs
    obtain ⟨A, B, E2, C, Y, kn⟩ := kept_num hn hU (sI_small hn hf hU) (la_pos ys) zs hB2 FZ
    have ap := near_bl hn hf fK
    obtain ⟨q, hq⟩ : ∃ q : Nat, ys.length * ys.length = q := ⟨_, rfl⟩
    have hq1 : (ys.length : Int) * (ys.length : Int) = (q : Int) := by rw [← hq, Int.natCast_mul]
    have hq2 : q ≤ 40000 := by rw [← hq]; exact Nat.mul_le_mul hn hn
    have c2 := fun W h1 h2 => lsum_fin ys ao cap W h1 h2 hF2 (Nat.le_trans hn (by decide)) hf
    have ck := fun W h => kept_any ys ao cap W h hF2 (Nat.le_trans hn (by decide))
    rw [eK] at ck
    have km := kn.mul
    rw [hq1] at km
    have hlN := (int_fd (n := (q : Int)) (by omega) (by omega)).2.1
    refine kept_walk xs ys ao cap K q _ _ (intD (q : Int)) A B E2 C _ _ w hT hr hn hq1 hq2 hys cc c2 ck (fun a c W h1 h2 => apart_fin K _ _ a c W h1 hK fK h2 FD ap) (fun a c W h => size_any _ _ a c W h FD) (fun W h => Int_any _ (by omega) (by omega) W h) ?_ ?_ ?_ ?_ (fun F hF a c b d W h1 h2 => atmost_any F C _ Y a b c d W h1 h2 hF kn.fC kn.le)
    · intro F hF a c W h
      have := scale_any F (-52) a c W h hF.2.1
      rw [kn.s52 F hF] at this
      exact this
    · intro a c b d W h0 h1 h2
      have := mul_any (intD (q : Int)) _ a b c d W h1 h2 hlN FZ.2.1 h0
      rw [km] at this
      exact this
    · intro a c W h
      have := scale_any B (-104) a c W h kn.lB
      rw [kn.s104] at this
      exact this
    · intro a c b d W h0 h1 h2
      have := Add_any A E2 a b c d W h1 h2 kn.lA kn.lB2 h0
      rw [kn.add] at this
      exact this
end Go.Proofs.YtlkmmfmnggejlaaDoor
