/- The document's Split of any float, and that BitsTells answers true whatever float it is given (the library's table lying as its initialiser lays it). -/
import Derived.Test.YtnclddfljghebaaDoorK1
import Derived.Test.YtnclddfljghebaaDoorZg
import Derived.Test.YtnclddfljghebaaDoorWj
import Derived.Deep.QuietTactic
import Derived.BigQuiet
import Derived.Deep.LoopGhost
import Derived.Deep.DeepCutAuto
namespace Go.Proofs.YtnclddfljghebaaDoor
open Go.RowKit

theorem end_bii {k l : IntKind} {a a' : Bool} {b b' c c' : Int} (h : a = a') (g : b = b') (f : c = c') : Ending.returned (.tuple #[.bool a, .int k b, .int l c]) = .returned (.tuple #[.bool a', .int k b', .int l c']) := by subst h; subst g; subst f; rfl
theorem sgn_div {a : Nat} (ha : a < 18446744073709551616) : ((a : Int) / 9223372036854775808 == 1) = sgn a := by
  unfold sgn; rw [Bool.eq_iff_iff]; simp; omega
theorem expo_int {a : Nat} : (a : Int) / 4503599627370496 % 2048 = (expo a : Int) := by unfold expo; omega
theorem frc_int {a : Nat} : (a : Int) % 4503599627370496 = (frc a : Int) := by unfold frc rung; omega
theorem rung_ef {a : Nat} (ha : a < 18446744073709551616) : rung a = expo a * 4503599627370496 + frc a := by unfold frc; rw [expo_rung ha]; omega
theorem expo_lt (a : Nat) : expo a < 2048 := by unfold expo; omega
theorem frc_lt (a : Nat) : frc a < 4503599627370496 := by unfold frc; omega

def kindF (a : Nat) : Int := if expo a = 2047 then (if frc a = 0 then 3 else 4) else if expo a = 0 then (if frc a = 0 then 0 else 1) else 2
theorem kind_nan {a : Nat} (ha : a < 18446744073709551616) : (kindF a == 4) = nanB a := by
  have h1 := rung_ef ha
  have h2 := expo_lt a
  have h3 := frc_lt a
  unfold kindF nanB
  rw [Bool.eq_iff_iff]
  simp only [beq_iff_eq, decide_eq_true_eq]
  (repeat' split) <;> omega
theorem kind_fin {a : Nat} (ha : a < 18446744073709551616) : decide (kindF a < 3) = finB a := by
  have h1 := rung_ef ha
  have h2 := expo_lt a
  have h3 := frc_lt a
  unfold kindF finB
  rw [decide_eq_decide]
  (repeat' split) <;> omega

end Go.Proofs.YtnclddfljghebaaDoor

namespace Go.Proofs.YtnclddfljghebaaDoor
open Go.RowKit

theorem at_negw {p : Int} (h : -9218868437227405312 ≤ p ∧ p < 0) : (-p + 9223372036854775808).toNat = atF p := by
  unfold atF; rw [atB_in (by omega), if_pos rfl, if_pos (by omega)]
  omega

/-- Where the loop of the document's Join ends. -/
theorem join_end {f k : Nat} {e : Int} (h0 : f ≠ 0) (hlt : f * 2 ^ k < 9007199254740992) (hk : -1074 ≤ e - k) (hend : 4503599627370496 ≤ f * 2 ^ k ∨ e - k = -1074) : jM f e = f * 2 ^ k ∧ (jU f e : Int) = e - k + 1074 := by
  have hl := log2_mul (d := k) h0
  have hm0 : f * 2 ^ k ≠ 0 := by have := Nat.mul_pos (Nat.pos_of_ne_zero h0) (Nat.two_pow_pos k); omega
  by_cases hn : 4503599627370496 ≤ f * 2 ^ k
  · have h52 : (f * 2 ^ k).log2 = 52 := log2_eq (by omega) (by omega)
    have hc : -1022 ≤ e + f.log2 := by omega
    unfold jM jU
    rw [if_pos hc, if_pos hc, show 52 - f.log2 = k by omega]
    exact ⟨rfl, by omega⟩
  · have h52 : (f * 2 ^ k).log2 < 52 := (Nat.log2_lt hm0).2 (by omega)
    have hc : ¬ -1022 ≤ e + f.log2 := by omega
    unfold jM jU
    rw [if_neg hc, if_neg hc, show (e + 1074).toNat = k by omega]
    exact ⟨rfl, by omega⟩

/-- What the loop's end says of the word. -/
theorem join_word {f k : Nat} {e m x : Int} (h0 : f ≠ 0) (hf : f < 9007199254740992) (h1 : -1074 ≤ e) (hok : okP f e = decide (jR f e < 9218868437227405312)) (hm : m = ((f * 2 ^ k : Nat) : Int)) (hx : x = e - k) (hend : jM f e = f * 2 ^ k ∧ (jU f e : Int) = e - k + 1074) :
    (x ≤ 971 → okP f e = true ∧ (joinF false f e : Int) = (x + 1074) * 4503599627370496 + m ∧ (joinF true f e : Int) = 9223372036854775808 + ((x + 1074) * 4503599627370496 + m)) ∧ (971 < x → okP f e = false ∧ ∀ n, joinF n f e = 0) := by
  obtain ⟨j1, j2, j3⟩ := jM_ok h0 hf h1
  have hjr : (jR f e : Int) = (x + 1074) * 4503599627370496 + m := by unfold jR; rw [hm, hx, ← hend.1]; have := hend.2; omega
  constructor
  · intro hx9
    have hk : okP f e = true := by
      rw [hok]; simp
      have : jU f e ≤ 2045 := by omega
      unfold jR; omega
    have hv : valR f e = jR f e := by unfold valR; rw [if_neg h0, hk]; rfl
    refine ⟨hk, ?_, ?_⟩
    · unfold joinF; rw [hk, hv]; simp only [if_true, Bool.false_eq_true, if_false]; omega
    · unfold joinF; rw [hk, hv]; simp only [if_true]; omega
  · intro hx9
    have hk : okP f e = false := by
      rw [hok]; simp
      have : 2046 ≤ jU f e := by omega
      unfold jR; omega
    exact ⟨hk, fun n => by unfold joinF; rw [hk]; rfl⟩

set_option maxRecDepth 100000 in
set_option maxHeartbeats 1000000 in
theorem rjoin_core (n : Bool) (f : Nat) (e : Int) (h0 : f ≠ 0) (b0 : ((f : Int) == 0) = false) (b1 : ((f : Int) % 2 == 0) = false) (hf : f < 9007199254740992) (h1 : -1074 ≤ e) (h2 : e ≤ 1023) (hok : okP f e = decide (jR f e < 9218868437227405312)) (w : World) :
    Calls Tryd.prog 94 #[.agg #[.bool n, .int .u64 f, .int .i64 e]] w fun r w' => r = .returned (.tuple #[.float .f64 (joinF n f e), .bool (okP f e)]) ∧ Below w.heap.size w w' := by
  have ff := run_ffrom
  have a1 : ¬ (9007199254740992 ≤ (f : Int)) := by omega
  have a2 : ¬ e < -1074 := by omega
  have a3 : ¬ 1023 < e := by omega
  have HF : Hid (f < 9007199254740992) := hf
  have H1 : Hid (-1074 ≤ e) := h1
  have H2 : Hid (e ≤ 1023) := h2
  have H0 : Hid (f ≠ 0) := h0
  have HK : Hid (okP f e = decide (jR f e < 9218868437227405312)) := hok
  clear hf h1 h2 h0 hok
  go_enter Tryd.func94, Tryd.ntmps94
  go_wp2
  go_quiet (fail)
  go_wp2
  clear a1 a2 a3 b0 b1
  go_loop [4, 5] (fun fv ev => ∃ (k : Nat) (m x : Int), fv = .int .u64 m ∧ ev = .int .i64 x ∧ m = ((f * 2 ^ k : Nat) : Int) ∧ m < 9007199254740992 ∧ x = e - k ∧ -1074 ≤ x ∧ x ≤ 1023) (fun _ ev => (intOf ev + 1074).toNat)
  case atStart => exact ⟨0, f, e, rfl, rfl, by simp, by have := HF.out; omega, by simp, H1.out, H2.out⟩
  case round =>
    obtain ⟨k, m, x, rfl, rfl, hm, hlt, hx, hx1, hx2⟩ := hrel
    have hm0 : 0 < m := by rw [hm]; have := Nat.mul_pos (Nat.pos_of_ne_zero H0.out) (Nat.two_pow_pos k); omega
    have c1 : (m != 0) = true := by simp; omega
    have HM : Hid (m = ((f * 2 ^ k : Nat) : Int)) := hm
    have HX : Hid (x = e - k) := hx
    clear hm hx
    by_cases hc : m < 4503599627370496
    · by_cases hx3 : -1074 < x
      · go_wp2
        go_round
        case rel => exact ⟨k + 1, 2 * m, x - 1, by go_num, by go_num, by rw [HM.out, Nat.pow_succ, ← Nat.mul_assoc]; omega, by omega, by rw [HX.out]; omega, by omega, by omega⟩
        case measure => simp [intOf]; omega
      · have hend := join_end (k := k) (e := e) H0.out (by have := HM.out; omega) (by have := HX.out; omega) (Or.inr (by have := HX.out; omega))
        obtain ⟨hk, hj1, hj2⟩ := (join_word H0.out HF.out H1.out HK.out HM.out HX.out hend).1 (by omega)
        have HJ1 : Hid ((joinF false f e : Int) = (x + 1074) * 4503599627370496 + m) := hj1
        have HJ2 : Hid ((joinF true f e : Int) = 9223372036854775808 + ((x + 1074) * 4503599627370496 + m)) := hj2
        clear hend hj1 hj2
        cases n
        · go_wp2
          go_ret2
          exact ⟨end_fb (by have := HJ1.out; omega) rfl, below_drewN ((Below.refl _ _).alloc (Nat.le_refl _) _) _⟩
        · go_wp2
          go_ret2
          exact ⟨end_fb (by have := HJ2.out; omega) rfl, below_drewN ((Below.refl _ _).alloc (Nat.le_refl _) _) _⟩
    · have hend := join_end (k := k) (e := e) H0.out (by have := HM.out; omega) (by have := HX.out; omega) (Or.inl (by have := HM.out; omega))
      have hw := join_word H0.out HF.out H1.out HK.out HM.out HX.out hend
      clear hend
      by_cases hx9 : x ≤ 971
      · obtain ⟨hk, hj1, hj2⟩ := hw.1 hx9
        have HJ1 : Hid ((joinF false f e : Int) = (x + 1074) * 4503599627370496 + m) := hj1
        have HJ2 : Hid ((joinF true f e : Int) = 9223372036854775808 + ((x + 1074) * 4503599627370496 + m)) := hj2
        clear hw hj1 hj2
        cases n
        · go_wp2
          go_ret2
          exact ⟨end_fb (by have := HJ1.out; omega) rfl, below_drewN ((Below.refl _ _).alloc (Nat.le_refl _) _) _⟩
        · go_wp2
          go_ret2
          exact ⟨end_fb (by have := HJ2.out; omega) rfl, below_drewN ((Below.refl _ _).alloc (Nat.le_refl _) _) _⟩
      · obtain ⟨hk, hj⟩ := hw.2 (by omega)
        have HJ : Hid (∀ n, joinF n f e = 0) := hj
        clear hw hj
        go_wp2
        go_ret2
        exact ⟨end_fb (HJ.out n).symm rfl, below_drewN ((Below.refl _ _).alloc (Nat.le_refl _) _) _⟩
end Go.Proofs.YtnclddfljghebaaDoor

namespace Go.Proofs.YtnclddfljghebaaDoor
open Go.RowKit

theorem joinF_no {f : Nat} {e : Int} (h : okP f e = false) (n : Bool) : joinF n f e = 0 := by unfold joinF; rw [h]; rfl
theorem okP_no {f : Nat} {e : Int} (h : 9007199254740992 ≤ f ∨ e < -1074 ∨ 1023 < e ∨ f ≠ 0 ∧ f % 2 = 0 ∨ f = 0 ∧ e ≠ 0) : okP f e = false := by
  unfold okP
  by_cases h0 : f = 0
  · rw [if_pos h0]; simp; omega
  · rw [if_neg h0]; simp; omega

set_option maxRecDepth 100000 in
set_option maxHeartbeats 1000000 in
theorem rjoin_zero (n : Bool) (w : World) :
    Calls Tryd.prog 94 #[.agg #[.bool n, .int .u64 0, .int .i64 0]] w fun r w' => r = .returned (.tuple #[.float .f64 (joinF n 0 0), .bool (okP 0 0)]) ∧ Below w.heap.size w w' := by
  have ff := run_ffrom
  have hk : okP 0 0 = true := by decide
  have j1 : joinF false 0 0 = 0 := by decide
  have j2 : joinF true 0 0 = 9223372036854775808 := by decide
  have J1 : Hid (joinF false 0 0 = 0) := j1
  have J2 : Hid (joinF true 0 0 = 9223372036854775808) := j2
  clear j1 j2
  go_enter Tryd.func94, Tryd.ntmps94
  go_wp2
  go_quiet (fail)
  go_wp2
  go_loop [4, 5] (fun fv ev => fv = .int .u64 0 ∧ ev = .int .i64 0) (fun _ _ => 0)
  case atStart => exact ⟨rfl, rfl⟩
  case round =>
    obtain ⟨rfl, rfl⟩ := hrel
    cases n
    · go_wp2
      go_ret2
      exact ⟨end_fb J1.out.symm rfl, below_drewN ((Below.refl _ _).alloc (Nat.le_refl _) _) _⟩
    · go_wp2
      go_ret2
      exact ⟨end_fb J2.out.symm rfl, below_drewN ((Below.refl _ _).alloc (Nat.le_refl _) _) _⟩

set_option maxRecDepth 100000 in
set_option maxHeartbeats 1000000 in
theorem rjoin_any (n : Bool) (f : Nat) (e : Int) (w : World) :
    Calls Tryd.prog 94 #[.agg #[.bool n, .int .u64 f, .int .i64 e]] w fun r w' => r = .returned (.tuple #[.float .f64 (joinF n f e), .bool (okP f e)]) ∧ Below w.heap.size w w' := by
  by_cases h1 : 9007199254740992 ≤ f
  · have HK : Hid (okP f e = false) := okP_no (Or.inl h1)
    have a1 : (9007199254740992 : Int) ≤ (f : Int) := by omega
    clear h1
    go_enter Tryd.func94, Tryd.ntmps94
    go_wp2
    go_ret2
    exact ⟨end_fb (joinF_no HK.out n).symm HK.out.symm, (Below.refl _ _).alloc (Nat.le_refl _) _⟩
  · have a1 : ¬ (9007199254740992 ≤ (f : Int)) := by omega
    by_cases h2 : e < -1074
    · have HK : Hid (okP f e = false) := okP_no (Or.inr (Or.inl h2))
      clear h1
      go_enter Tryd.func94, Tryd.ntmps94
      go_wp2
      go_ret2
      exact ⟨end_fb (joinF_no HK.out n).symm HK.out.symm, (Below.refl _ _).alloc (Nat.le_refl _) _⟩
    · by_cases h3 : 1023 < e
      · have HK : Hid (okP f e = false) := okP_no (Or.inr (Or.inr (Or.inl h3)))
        clear h1
        go_enter Tryd.func94, Tryd.ntmps94
        go_wp2
        go_ret2
        exact ⟨end_fb (joinF_no HK.out n).symm HK.out.symm, (Below.refl _ _).alloc (Nat.le_refl _) _⟩
      · by_cases h4 : f = 0
        · by_cases h5 : e = 0
          · subst h4 h5
            exact rjoin_zero n w
          · have HK : Hid (okP f e = false) := okP_no (Or.inr (Or.inr (Or.inr (Or.inr ⟨h4, h5⟩))))
            have b0 : ((f : Int) == 0) = true := by simp; omega
            have b1 : ((f : Int) % 2 == 0) = true := by simp; omega
            have b2 : (e != 0) = true := by simp; omega
            clear h1 h4 h5
            go_enter Tryd.func94, Tryd.ntmps94
            go_wp2
            go_ret2
            exact ⟨end_fb (joinF_no HK.out n).symm HK.out.symm, (Below.refl _ _).alloc (Nat.le_refl _) _⟩
        · have b0 : ((f : Int) == 0) = false := by simp; omega
          by_cases h5 : f % 2 = 0
          · have HK : Hid (okP f e = false) := okP_no (Or.inr (Or.inr (Or.inr (Or.inl ⟨h4, h5⟩))))
            have b1 : ((f : Int) % 2 == 0) = true := by simp; omega
            clear h1 h4 h5
            go_enter Tryd.func94, Tryd.ntmps94
            go_wp2
            go_ret2
            exact ⟨end_fb (joinF_no HK.out n).symm HK.out.symm, (Below.refl _ _).alloc (Nat.le_refl _) _⟩
          · have b1 : ((f : Int) % 2 == 0) = false := by simp; omega
            refine rjoin_core n f e h4 b0 b1 (by omega) (by omega) (by omega) ?_ w
            unfold okP; rw [if_neg h4, decide_eq_decide]; omega

theorem old_cells {W V : World} (hb : Below W.heap.size W V) : ∀ b o, b < W.heap.size → V.cell? ⟨b, o, none⟩ = W.cell? ⟨b, o, none⟩ := fun b o h => hb.cell (p := ⟨b, o, none⟩) h
theorem same_refl (a : Nat) : sameB a a = true := by unfold sameB; cases nanB a <;> simp
theorem joinF_lt (n : Bool) (f : Nat) (e : Int) : joinF n f e < 18446744073709551616 := by
  have := valR_lt f e
  unfold joinF; (repeat' split) <;> omega

end Go.Proofs.YtnclddfljghebaaDoor

namespace Go.Proofs.YtnclddfljghebaaDoor
open Go.RowKit

theorem place_of_small {r : Nat} (h : r < 9223372036854775808) : place r = r := place_small h
theorem nan_rung (a : Nat) : nanB (rung a) = nanB a := by unfold nanB; rw [rung_rung]
theorem gt_max {a : Nat} (na : nanB a = false) : (FloatKind.f64.format.order (rung a) 9218868437227405311 == some .gt) = decide (9218868437227405312 ≤ rung a) := by
  have hr := rung_lt a
  rw [gt_num (by omega) (by omega) (by rw [nan_rung]; exact na) (nan_small (by omega)), place_small hr, place_small (by omega), decide_eq_decide]
  omega
theorem ge_norm {a : Nat} (na : nanB a = false) : (FloatKind.f64.format.order (rung a) 4503599627370496 == some .gt || FloatKind.f64.format.order (rung a) 4503599627370496 == some .eq) = decide (4503599627370496 ≤ rung a) := by
  have hr := rung_lt a
  rw [gt_num (by omega) (by omega) (by rw [nan_rung]; exact na) (nan_small (by omega)), eq_num (by omega) (by omega) (by rw [nan_rung]; exact na) (nan_small (by omega)), place_small hr, place_small (by omega), Bool.eq_iff_iff]
  simp; omega
theorem gt_zero {a : Nat} (na : nanB a = false) : (FloatKind.f64.format.order (rung a) 0 == some .gt) = decide (0 < rung a) := by
  have hr := rung_lt a
  rw [gt_num (by omega) (by omega) (by rw [nan_rung]; exact na) (nan_small (by omega)), place_small hr, place_small (by omega), decide_eq_decide]
  omega
theorem pw_norm : pw (-1022) = 4503599627370496 := by decide
theorem kind_num {a : Nat} (ha : a < 18446744073709551616) (na : nanB a = false) : kindF a = if 9218868437227405312 ≤ rung a then 3 else if 4503599627370496 ≤ rung a then 2 else if 0 < rung a then 1 else 0 := by
  have h1 := rung_ef ha
  have h2 := expo_lt a
  have h3 := frc_lt a
  have h4 : ¬ 9218868437227405312 < rung a := by unfold nanB at na; simpa using na
  unfold kindF
  (repeat' split) <;> omega
theorem kind_isnan {a : Nat} (ha : a < 18446744073709551616) (na : nanB a = true) : kindF a = 4 := by
  have := kind_nan ha
  rw [na] at this
  simpa using this

def ulpF (a : Nat) : Nat := if finB a then pw ((up (rung a) : Int) - 1074) else 0

theorem rjoin_one {E : Int} (h1 : -1074 ≤ E) (h2 : E ≤ 1023) : okP 1 E = true ∧ joinF false 1 E = pw E := by
  have hl : Nat.log2 1 = 0 := by decide
  have hj : jR 1 E = pw E := by
    unfold jR jU jM pw
    rw [hl]
    by_cases hc : E < -1022
    · rw [if_pos hc, if_neg (by omega), if_neg (by omega)]; omega
    · rw [if_neg hc, if_pos (by omega), if_pos (by omega)]
      rw [show 1 * 2 ^ (52 - 0) = 4503599627370496 from rfl]
      omega
  have hp := (pw_ok h1 h2).1
  have hk : okP 1 E = true := by unfold okP; rw [if_neg (by omega)]; simp; omega
  refine ⟨hk, ?_⟩
  unfold joinF valR
  rw [hk]
  simp only [if_true, Bool.false_eq_true, if_false]
  rw [if_neg (by omega)]
  exact hj

end Go.Proofs.YtnclddfljghebaaDoor

namespace Go.Proofs.YtnclddfljghebaaDoor
open Go.RowKit

theorem at_place {a : Nat} (ha : a < 18446744073709551616) (na : nanB a = false) (h : place a ≠ 0) : atF (place a) = a := by
  have hb := place_nan na
  have e := rung_of a ha
  unfold atF
  rw [atB_in hb, if_pos rfl]
  unfold place at *
  cases sa : sgn a
  · simp only [sa, Bool.false_eq_true, if_false] at *
    rw [if_neg (by omega)]; omega
  · simp only [sa, if_true] at *
    rw [if_pos (by omega)]; omega

theorem odd_unique {m k q z : Nat} (hm : m % 2 = 1) (h : m * 2 ^ k = 2 ^ z * (2 * q + 1)) : k = z ∧ m = 2 * q + 1 := by
  have key : ∀ {x y i j : Nat}, x % 2 = 1 → x * 2 ^ i = y * 2 ^ j → j ≤ i → y % 2 = 1 → i = j ∧ x = y := by
    intro x y i j hx he hji hy
    obtain ⟨d, rfl⟩ : ∃ d, i = j + d := ⟨i - j, by omega⟩
    rw [Nat.pow_add, Nat.mul_comm (2 ^ j), ← Nat.mul_assoc] at he
    have he' := Nat.eq_of_mul_eq_mul_right (Nat.two_pow_pos j) he
    cases d with
    | zero => simp at he'; exact ⟨rfl, he'⟩
    | succ d => rw [Nat.pow_succ, ← Nat.mul_assoc] at he'; omega
  rw [Nat.mul_comm (2 ^ z)] at h
  by_cases hkz : z ≤ k
  · exact key hm h hkz (by omega)
  · have := key (by omega) h.symm (by omega) hm
    exact ⟨this.1.symm, this.2.symm⟩

theorem split_end {a m k : Nat} (h0 : rung a ≠ 0) (hm : m % 2 = 1) (h : m * 2 ^ k = mg (rung a)) : spZ a = k ∧ spF a = m := by
  have hlt := mg_lt (rung a)
  have hne := mg_ne h0
  obtain ⟨q, hq, hz⟩ := Lib.ctzFrom_spec 64 (mg (rung a)) (by omega) (by omega)
  have e : spZ a = Lib.ctzFrom 64 (mg (rung a)) := by unfold spZ Lib.ctz; rw [if_neg hne]
  rw [← e] at hq
  obtain ⟨h1, h2⟩ := odd_unique hm (h.trans hq)
  refine ⟨h1.symm, ?_⟩
  unfold spF
  rw [if_neg h0, ← h1, ← h, Nat.mul_div_cancel _ (Nat.two_pow_pos _)]

theorem half_bd {a g k : Nat} (h : g * 2 ^ k = mg (rung a)) (h0 : rung a ≠ 0) : 0 < g ∧ g < 9007199254740992 ∧ k < 53 := by
  have h1 := mg_lt (rung a)
  have h2 := mg_ne h0
  have hp := Nat.two_pow_pos k
  have hg : 0 < g := by
    rcases Nat.eq_zero_or_pos g with e | e
    · rw [e] at h; omega
    · exact e
  have hle : g ≤ g * 2 ^ k := Nat.le_mul_of_pos_right _ hp
  refine ⟨hg, by omega, ?_⟩
  have h3 : 2 ^ k ≤ g * 2 ^ k := Nat.le_mul_of_pos_left _ hg
  have h4 : 2 ^ k < 2 ^ 53 := by omega
  exact (Nat.pow_lt_pow_iff_right (by omega)).1 h4

end Go.Proofs.YtnclddfljghebaaDoor

namespace Go.Proofs.YtnclddfljghebaaDoor
open Go.RowKit

theorem nextF_lt (a : Nat) (up : Bool) (ha : a < 18446744073709551616) : nextF a up < 18446744073709551616 := by
  unfold nextF; split
  · exact ha
  · exact atF_lt _
theorem ulpF_lt (a : Nat) : ulpF a < 18446744073709551616 := by
  unfold ulpF
  cases hf : finB a
  · simp
  · have hu := up_lt hf
    have := (pw_ok (e := (up (rung a) : Int) - 1074) (by omega) (by omega)).1
    simp only [if_true]; omega

/-- Three cells that have just been laid, in a later world. -/
theorem cells3 {W V : World} {c0 c1 c2 : Value} {t : TypeId} (hb : Below (W.alloc (.cells #[c0, c1, c2] t)).heap.size (W.alloc (.cells #[c0, c1, c2] t)) V) :
    (V.cell? ⟨W.heap.size, 0, none⟩ = some c0 ∧ V.cell? ⟨W.heap.size, 1, none⟩ = some c1 ∧ V.cell? ⟨W.heap.size, 2, none⟩ = some c2) ∧ W.heap.size < V.heap.size := by
  have hs := hb.size
  simp at hs
  have h := fun (o : Nat) => hb.cell (p := ⟨W.heap.size, o, none⟩) (by simp)
  refine ⟨⟨?_, ?_, ?_⟩, by omega⟩
  · rw [h]; simp [go_sem]
  · rw [h]; simp [go_sem]
  · rw [h]; simp [go_sem]
theorem below3 {W V : World} {o : Obj} (hb : Below (W.alloc o).heap.size (W.alloc o) V) : Below W.heap.size W V :=
  ((Below.refl _ _).alloc (Nat.le_refl _) _).trans (hb.mono (by simp))
theorem cells_on {W V : World} {c0 c1 c2 : Value} {b : Nat} (hb : Below W.heap.size W V) (h : W.cell? ⟨b, 0, none⟩ = some c0 ∧ W.cell? ⟨b, 1, none⟩ = some c1 ∧ W.cell? ⟨b, 2, none⟩ = some c2) :
    V.cell? ⟨b, 0, none⟩ = some c0 ∧ V.cell? ⟨b, 1, none⟩ = some c1 ∧ V.cell? ⟨b, 2, none⟩ = some c2 := by
  have hlt := World.block_lt_of_cell? W _ h.1
  have g := fun (o : Nat) => hb.cell (p := ⟨b, o, none⟩) hlt
  exact ⟨by rw [g]; exact h.1, by rw [g]; exact h.2.1, by rw [g]; exact h.2.2⟩

end Go.Proofs.YtnclddfljghebaaDoor
