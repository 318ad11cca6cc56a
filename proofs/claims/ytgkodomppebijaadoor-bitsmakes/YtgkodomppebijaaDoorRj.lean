/- What the document's At and Join compute, call by call. -/
import Derived.Test.YtgkodomppebijaaDoorRa
import Derived.Test.YtgkodomppebijaaDoorWj
import Derived.Deep.QuietTactic
import Derived.BigQuiet
namespace Go.Proofs.YtgkodomppebijaaDoor
open Go.RowKit

theorem at_negw {p : Int} (h : -9218868437227405312 ≤ p ∧ p < 0) : (-p + 9223372036854775808).toNat = atF p := by
  unfold atF; rw [atB_in (by omega), if_pos rfl, if_pos (by omega)]
  omega

set_option maxHeartbeats 400000 in
theorem rat_any (p : Int) (h1 : -9223372036854775808 ≤ p) (h2 : p ≤ 9223372036854775807) (w : World) :
    Calls Tryd.prog 31 #[.int .i64 p] w fun e w' => e = .returned (.tuple #[.float .f64 (atF p), .bool (atB p)]) ∧ w' = w := by
  have ff := run_ffrom
  by_cases h3 : 9218868437227405312 < p
  · go_enter Tryd.func31, Tryd.ntmps31
    go_wp2
    go_ret2
    exact ⟨end_fb (at_out (by omega)) (atB_out (by omega)).symm, rfl⟩
  · by_cases h4 : p < -9218868437227405312
    · go_enter Tryd.func31, Tryd.ntmps31
      go_wp2
      go_ret2
      exact ⟨end_fb (at_out (by omega)) (atB_out (by omega)).symm, rfl⟩
    · by_cases h5 : p < 0
      · go_enter Tryd.func31, Tryd.ntmps31
        go_wp2
        go_ret2
        exact ⟨end_fb (at_negw (by omega)) (atB_in (by omega)).symm, rfl⟩
      · go_enter Tryd.func31, Tryd.ntmps31
        go_wp2
        go_ret2
        exact ⟨end_fb (at_pos (by omega)) (atB_in (by omega)).symm, rfl⟩

/-- Where the loop of the document's Join ends. -/
theorem join_end {f k : Nat} {e : Int} (h0 : f ≠ 0) (hlt : f * 2 ^ k < 9007199254740992) (hk : -1074 ≤ e - k) (hend : 4503599627370496 ≤ f * 2 ^ k ∨ e - k = -1074) : jM f e = f * 2 ^ k ∧ (jU f e : Int) = e - k + 1074 := by
  have hl := log2_mul (d := k) h0
  have hm0 : f * 2 ^ k ≠ 0 := by have := Nat.mul_pos (Nat.pos_of_ne_zero h0) (Nat.two_pow_pos k); omega
  by_cases hn : 4503599627370496 ≤ f * 2 ^ k
  · have h52 : (f * 2 ^ k).log2 = 52 := log2_eq (by omega) (by omega)
    have hc : -1022 ≤ e + f.log2 := by omega
    unfold jM jU
    rw [if_pos hc, if_pos hc, show 52 - f.log2 = k by omega]
    exact ⟨rfl, by omega⟩
  · have h52 : (f * 2 ^ k).log2 < 52 := (Nat.log2_lt hm0).2 (by omega)
    have hc : ¬ -1022 ≤ e + f.log2 := by omega
    unfold jM jU
    rw [if_neg hc, if_neg hc, show (e + 1074).toNat = k by omega]
    exact ⟨rfl, by omega⟩

/-- What the loop's end says of the word. -/
theorem join_word {f k : Nat} {e m x : Int} (h0 : f ≠ 0) (hf : f < 9007199254740992) (h1 : -1074 ≤ e) (hok : okP f e = decide (jR f e < 9218868437227405312)) (hm : m = ((f * 2 ^ k : Nat) : Int)) (hx : x = e - k) (hend : jM f e = f * 2 ^ k ∧ (jU f e : Int) = e - k + 1074) :
    (x ≤ 971 → okP f e = true ∧ (joinF false f e : Int) = (x + 1074) * 4503599627370496 + m ∧ (joinF true f e : Int) = 9223372036854775808 + ((x + 1074) * 4503599627370496 + m)) ∧ (971 < x → okP f e = false ∧ ∀ n, joinF n f e = 0) := by
  obtain ⟨j1, j2, j3⟩ := jM_ok h0 hf h1
  have hjr : (jR f e : Int) = (x + 1074) * 4503599627370496 + m := by unfold jR; rw [hm, hx, ← hend.1]; have := hend.2; omega
  constructor
  · intro hx9
    have hk : okP f e = true := by
      rw [hok]; simp
      have : jU f e ≤ 2045 := by omega
      unfold jR; omega
    have hv : valR f e = jR f e := by unfold valR; rw [if_neg h0, hk]; rfl
    refine ⟨hk, ?_, ?_⟩
    · unfold joinF; rw [hk, hv]; simp only [if_true, Bool.false_eq_true, if_false]; omega
    · unfold joinF; rw [hk, hv]; simp only [if_true]; omega
  · intro hx9
    have hk : okP f e = false := by
      rw [hok]; simp
      have : 2046 ≤ jU f e := by omega
      unfold jR; omega
    exact ⟨hk, fun n => by unfold joinF; rw [hk]; rfl⟩

set_option maxRecDepth 100000 in
set_option maxHeartbeats 1000000 in
theorem rjoin_core (n : Bool) (f : Nat) (e : Int) (h0 : f ≠ 0) (b0 : ((f : Int) == 0) = false) (b1 : ((f : Int) % 2 == 0) = false) (hf : f < 9007199254740992) (h1 : -1074 ≤ e) (h2 : e ≤ 1023) (hok : okP f e = decide (jR f e < 9218868437227405312)) (w : World) :
    Calls Tryd.prog 30 #[.agg #[.bool n, .int .u64 f, .int .i64 e]] w fun r w' => r = .returned (.tuple #[.float .f64 (joinF n f e), .bool (okP f e)]) ∧ Below w.heap.size w w' := by
  have ff := run_ffrom
  have a1 : ¬ (9007199254740992 ≤ (f : Int)) := by omega
  have a2 : ¬ e < -1074 := by omega
  have a3 : ¬ 1023 < e := by omega
  have HF : Hid (f < 9007199254740992) := hf
  have H1 : Hid (-1074 ≤ e) := h1
  have H2 : Hid (e ≤ 1023) := h2
  have H0 : Hid (f ≠ 0) := h0
  have HK : Hid (okP f e = decide (jR f e < 9218868437227405312)) := hok
  clear hf h1 h2 h0 hok
  go_enter Tryd.func30, Tryd.ntmps30
  go_wp2
  go_quiet (fail)
  go_wp2
  clear a1 a2 a3 b0 b1
  go_loop [4, 5] (fun fv ev => ∃ (k : Nat) (m x : Int), fv = .int .u64 m ∧ ev = .int .i64 x ∧ m = ((f * 2 ^ k : Nat) : Int) ∧ m < 9007199254740992 ∧ x = e - k ∧ -1074 ≤ x ∧ x ≤ 1023) (fun _ ev => (intOf ev + 1074).toNat)
  case atStart => exact ⟨0, f, e, rfl, rfl, by simp, by have := HF.out; omega, by simp, H1.out, H2.out⟩
  case round =>
    obtain ⟨k, m, x, rfl, rfl, hm, hlt, hx, hx1, hx2⟩ := hrel
    have hm0 : 0 < m := by rw [hm]; have := Nat.mul_pos (Nat.pos_of_ne_zero H0.out) (Nat.two_pow_pos k); omega
    have c1 : (m != 0) = true := by simp; omega
    have HM : Hid (m = ((f * 2 ^ k : Nat) : Int)) := hm
    have HX : Hid (x = e - k) := hx
    clear hm hx
    by_cases hc : m < 4503599627370496
    · by_cases hx3 : -1074 < x
      · go_wp2
        go_round
        case rel => exact ⟨k + 1, 2 * m, x - 1, by go_num, by go_num, by rw [HM.out, Nat.pow_succ, ← Nat.mul_assoc]; omega, by omega, by rw [HX.out]; omega, by omega, by omega⟩
        case measure => simp [intOf]; omega
      · have hend := join_end (k := k) (e := e) H0.out (by have := HM.out; omega) (by have := HX.out; omega) (Or.inr (by have := HX.out; omega))
        obtain ⟨hk, hj1, hj2⟩ := (join_word H0.out HF.out H1.out HK.out HM.out HX.out hend).1 (by omega)
        have HJ1 : Hid ((joinF false f e : Int) = (x + 1074) * 4503599627370496 + m) := hj1
        have HJ2 : Hid ((joinF true f e : Int) = 9223372036854775808 + ((x + 1074) * 4503599627370496 + m)) := hj2
        clear hend hj1 hj2
        cases n
        · go_wp2
          go_ret2
          exact ⟨end_fb (by have := HJ1.out; omega) rfl, below_drewN ((Below.refl _ _).alloc (Nat.le_refl _) _) _⟩
        · go_wp2
          go_ret2
          exact ⟨end_fb (by have := HJ2.out; omega) rfl, below_drewN ((Below.refl _ _).alloc (Nat.le_refl _) _) _⟩
    · have hend := join_end (k := k) (e := e) H0.out (by have := HM.out; omega) (by have := HX.out; omega) (Or.inl (by have := HM.out; omega))
      have hw := join_word H0.out HF.out H1.out HK.out HM.out HX.out hend
      clear hend
      by_cases hx9 : x ≤ 971
      · obtain ⟨hk, hj1, hj2⟩ := hw.1 hx9
        have HJ1 : Hid ((joinF false f e : Int) = (x + 1074) * 4503599627370496 + m) := hj1
        have HJ2 : Hid ((joinF true f e : Int) = 9223372036854775808 + ((x + 1074) * 4503599627370496 + m)) := hj2
        clear hw hj1 hj2
        cases n
        · go_wp2
          go_ret2
          exact ⟨end_fb (by have := HJ1.out; omega) rfl, below_drewN ((Below.refl _ _).alloc (Nat.le_refl _) _) _⟩
        · go_wp2
          go_ret2
          exact ⟨end_fb (by have := HJ2.out; omega) rfl, below_drewN ((Below.refl _ _).alloc (Nat.le_refl _) _) _⟩
      · obtain ⟨hk, hj⟩ := hw.2 (by omega)
        have HJ : Hid (∀ n, joinF n f e = 0) := hj
        clear hw hj
        go_wp2
        go_ret2
        exact ⟨end_fb (HJ.out n).symm rfl, below_drewN ((Below.refl _ _).alloc (Nat.le_refl _) _) _⟩
end Go.Proofs.YtgkodomppebijaaDoor
