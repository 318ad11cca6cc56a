/- What the document's Next and Split compute, call by call. -/
import Derived.Test.YtgkodomppebijaaDoorRl
import Derived.Deep.LoopGhost
namespace Go.Proofs.YtgkodomppebijaaDoor
open Go.RowKit

theorem at_place {a : Nat} (ha : a < 18446744073709551616) (na : nanB a = false) (h : place a ≠ 0) : atF (place a) = a := by
  have hb := place_nan na
  have e := rung_of a ha
  unfold atF
  rw [atB_in hb, if_pos rfl]
  unfold place at *
  cases sa : sgn a
  · simp only [sa, Bool.false_eq_true, if_false] at *
    rw [if_neg (by omega)]; omega
  · simp only [sa, if_true] at *
    rw [if_pos (by omega)]; omega

set_option maxHeartbeats 400000 in
theorem rnext_any (a : Nat) (up : Bool) (ha : a < 18446744073709551616) (w : World) :
    Calls Tryd.prog 29 #[.float .f64 a, .bool up] w fun e w' => e = .returned (.float .f64 (nextF a up)) ∧ w' = w := by
  cases na : nanB a
  · have hb := place_nan na
    have HP : Hid (plc a = place a) := (show plc a = place a by unfold plc; rw [na]; rfl)
    have hp : -9218868437227405312 ≤ plc a ∧ plc a ≤ 9218868437227405312 := by rw [HP.out]; exact hb
    clear hb
    cases up
    · have HE : Hid (nextF a false = atF (max (plc a - 1) (-9218868437227405312))) := (show nextF a false = atF (max (plc a - 1) (-9218868437227405312)) by unfold nextF; rw [na, HP.out]; rfl)
      by_cases hc : plc a = -9218868437227405312
      · have b1 : (plc a == -9218868437227405312) = true := by simp; omega
        have HA : Hid (nextF a false = a) := (show nextF a false = a by rw [HE.out, show max (plc a - 1) (-9218868437227405312) = place a by rw [HP.out] at *; omega]; exact at_place ha na (by rw [HP.out] at hc; omega))
        clear hc
        go_enter Tryd.func29, Tryd.ntmps29
        go_wp2_with (first | (go_at_call 26; refine (rplace_any _ (by assumption) _).mono ?_; rintro e w' ⟨rfl, rfl⟩))
        go_ret
        exact ⟨end_flt HA.out.symm, rfl⟩
      · have b1 : (plc a == -9218868437227405312) = false := by simp; omega
        have HA : Hid (nextF a false = atF (plc a - 1)) := (show nextF a false = atF (plc a - 1) by rw [HE.out]; exact congrArg atF (by omega))
        have hp3 : -9218868437227405312 < plc a := by omega
        clear hc
        go_enter Tryd.func29, Tryd.ntmps29
        go_wp2_with (first | (go_at_call 26; refine (rplace_any _ (by assumption) _).mono ?_; rintro e w' ⟨rfl, rfl⟩) | (go_at_call 31; refine (rat_any _ (by omega) (by omega) _).mono ?_; rintro e w' ⟨rfl, rfl⟩))
        go_ret
        exact ⟨end_flt HA.out.symm, rfl⟩
    · have HE : Hid (nextF a true = atF (min (plc a + 1) 9218868437227405312)) := (show nextF a true = atF (min (plc a + 1) 9218868437227405312) by unfold nextF; rw [na, HP.out]; rfl)
      by_cases hc : plc a = 9218868437227405312
      · have b1 : (plc a == 9218868437227405312) = true := by simp; omega
        have HA : Hid (nextF a true = a) := (show nextF a true = a by rw [HE.out, show min (plc a + 1) 9218868437227405312 = place a by rw [HP.out] at *; omega]; exact at_place ha na (by rw [HP.out] at hc; omega))
        clear hc
        go_enter Tryd.func29, Tryd.ntmps29
        go_wp2_with (first | (go_at_call 26; refine (rplace_any _ (by assumption) _).mono ?_; rintro e w' ⟨rfl, rfl⟩))
        go_ret
        exact ⟨end_flt HA.out.symm, rfl⟩
      · have b1 : (plc a == 9218868437227405312) = false := by simp; omega
        have HA : Hid (nextF a true = atF (plc a + 1)) := (show nextF a true = atF (plc a + 1) by rw [HE.out]; exact congrArg atF (by omega))
        have hp3 : plc a < 9218868437227405312 := by omega
        clear hc
        go_enter Tryd.func29, Tryd.ntmps29
        go_wp2_with (first | (go_at_call 26; refine (rplace_any _ (by assumption) _).mono ?_; rintro e w' ⟨rfl, rfl⟩) | (go_at_call 31; refine (rat_any _ (by omega) (by omega) _).mono ?_; rintro e w' ⟨rfl, rfl⟩))
        go_ret
        exact ⟨end_flt HA.out.symm, rfl⟩
  · have HE : Hid (nextF a up = a) := (show nextF a up = a by unfold nextF; rw [na]; rfl)
    go_enter Tryd.func29, Tryd.ntmps29
    go_wp2_with (first | (go_at_call 26; refine (rplace_any _ (by assumption) _).mono ?_; rintro e w' ⟨rfl, rfl⟩))
    go_ret
    exact ⟨end_flt HE.out.symm, rfl⟩

theorem odd_unique {m k q z : Nat} (hm : m % 2 = 1) (h : m * 2 ^ k = 2 ^ z * (2 * q + 1)) : k = z ∧ m = 2 * q + 1 := by
  have key : ∀ {x y i j : Nat}, x % 2 = 1 → x * 2 ^ i = y * 2 ^ j → j ≤ i → y % 2 = 1 → i = j ∧ x = y := by
    intro x y i j hx he hji hy
    obtain ⟨d, rfl⟩ : ∃ d, i = j + d := ⟨i - j, by omega⟩
    rw [Nat.pow_add, Nat.mul_comm (2 ^ j), ← Nat.mul_assoc] at he
    have he' := Nat.eq_of_mul_eq_mul_right (Nat.two_pow_pos j) he
    cases d with
    | zero => simp at he'; exact ⟨rfl, he'⟩
    | succ d => rw [Nat.pow_succ, ← Nat.mul_assoc] at he'; omega
  rw [Nat.mul_comm (2 ^ z)] at h
  by_cases hkz : z ≤ k
  · exact key hm h hkz (by omega)
  · have := key (by omega) h.symm (by omega) hm
    exact ⟨this.1.symm, this.2.symm⟩

theorem split_end {a m k : Nat} (h0 : rung a ≠ 0) (hm : m % 2 = 1) (h : m * 2 ^ k = mg (rung a)) : spZ a = k ∧ spF a = m := by
  have hlt := mg_lt (rung a)
  have hne := mg_ne h0
  obtain ⟨q, hq, hz⟩ := Lib.ctzFrom_spec 64 (mg (rung a)) (by omega) (by omega)
  have e : spZ a = Lib.ctzFrom 64 (mg (rung a)) := by unfold spZ Lib.ctz; rw [if_neg hne]
  rw [← e] at hq
  obtain ⟨h1, h2⟩ := odd_unique hm (h.trans hq)
  refine ⟨h1.symm, ?_⟩
  unfold spF
  rw [if_neg h0, ← h1, ← h, Nat.mul_div_cancel _ (Nat.two_pow_pos _)]

set_option maxRecDepth 100000 in
set_option maxHeartbeats 1000000 in
theorem rsplit_inf (a : Nat) (ha : a < 18446744073709551616) (hf : finB a = false) (w : World) :
    Calls Tryd.prog 24 #[.float .f64 a] w fun e w' => e = .returned (.tuple #[.agg #[.bool false, .int .u64 0, .int .i64 0], .bool false]) ∧ Below w.heap.size w w' := by
  go_enter Tryd.func24, Tryd.ntmps24
  go_wp2_with (first | (go_at_call 48; refine (rfinite_any _ (by assumption) _).mono ?_; rintro e w' ⟨rfl, rfl⟩))
  exact bodyPost_ret (v := .tuple #[.agg #[.bool false, .int .u64 0, .int .i64 0], .bool false]) (by simp [results, Tryd.results24, go_sem]) rfl ⟨rfl, (Below.refl _ _).alloc (Nat.le_refl _) _⟩

theorem half_bd {a g k : Nat} (h : g * 2 ^ k = mg (rung a)) (h0 : rung a ≠ 0) : 0 < g ∧ g < 9007199254740992 ∧ k < 53 := by
  have h1 := mg_lt (rung a)
  have h2 := mg_ne h0
  have hp := Nat.two_pow_pos k
  have hg : 0 < g := by
    rcases Nat.eq_zero_or_pos g with e | e
    · rw [e] at h; omega
    · exact e
  have hle : g ≤ g * 2 ^ k := Nat.le_mul_of_pos_right _ hp
  refine ⟨hg, by omega, ?_⟩
  have h3 : 2 ^ k ≤ g * 2 ^ k := Nat.le_mul_of_pos_left _ hg
  have h4 : 2 ^ k < 2 ^ 53 := by omega
  exact (Nat.pow_lt_pow_iff_right (by omega)).1 h4

set_option maxRecDepth 100000 in
set_option maxHeartbeats 1000000 in
theorem rsplit_norm (a : Nat) (ha : a < 18446744073709551616) (hf : finB a = true) (hx : (0 : Int) < (expo a : Int)) (hr : rung a ≠ 0) (hmg : mg (rung a) = frc a + 4503599627370496) (hup : (up (rung a) : Int) = expo a - 1) (w : World) :
    Calls Tryd.prog 24 #[.float .f64 a] w fun e w' => e = .returned (.tuple #[.agg #[.bool (sgn a), .int .u64 (spF a), .int .i64 (spE a)], .bool true]) ∧ Below w.heap.size w w' := by
  have he := expo_lt a
  have hfr := frc_lt a
  have b1 : ((frc a : Int) + 4503599627370496 == 0) = false := by simp; omega
  have HR : Hid (rung a ≠ 0) := hr
  have HM : Hid (mg (rung a) = frc a + 4503599627370496) := hmg
  have HU : Hid ((up (rung a) : Int) = expo a - 1) := hup
  clear hr hmg hup
  go_enter Tryd.func24, Tryd.ntmps24
  go_wp2_with (first | (go_at_call 48; refine (rfinite_any _ (by assumption) _).mono ?_; rintro e w' ⟨rfl, rfl⟩) | (go_at_call 49; refine (fields_any _ (by assumption) _).mono ?_; rintro e w' ⟨rfl, rfl⟩))
  go_loopg [] (frc a + 4503599627370496) (fun g wr => ∃ (k : Nat) (m x : Int), (w.alloc (.cells #[.bool false, .int .u64 0, .int .i64 0] 29)).alloc (.cells #[.bool (sgn a), .int .u64 m, .int .i64 x] 29) = wr ∧ m = (g : Int) ∧ Aside (g * 2 ^ k = mg (rung a) ∧ x = (up (rung a) : Int) - 1074 + k))
  case atStart => exact ⟨0, _, _, rfl, by omega, ⟨by rw [HM.out]; simp, by rw [HU.out]; simp; omega⟩⟩
  case round =>
    obtain ⟨k, m, x, rfl, hmg, hA⟩ := hrel
    have hbd := half_bd (a := a) hA.out.1 HR.out
    have hf1 := up_lt hf
    have hx1 : -1074 ≤ x ∧ x < 2100 := by have := hA.out.2; omega
    have hm0 : 0 < m := by omega
    have hm1 : m < 9007199254740992 := by omega
    have c0 : (m != 0) = true := by simp; omega
    have HG : Hid (m = (gk : Int)) := hmg
    have HB : Hid (0 < gk ∧ gk < 9007199254740992 ∧ k < 53) := hbd
    clear hbd hmg hf1
    by_cases hev : m % 2 = 0
    · have c1 : (m % 2 == 0) = true := by simp; omega
      have HV : Hid (m % 2 = 0) := hev
      clear hev
      go_wp2
      go_roundg (gk / 2)
      case measure => have := HB.out; omega
      case rel =>
        refine ⟨k + 1, _, _, rfl, by have := HG.out; have := HV.out; omega, ⟨?_, by have := hA.out.2; omega⟩⟩
        have h1 := hA.out.1
        have h2 : gk = 2 * (gk / 2) := by have := HG.out; have := HV.out; omega
        rw [← h1, Nat.pow_succ, Nat.mul_comm (2 ^ k), ← Nat.mul_assoc, Nat.mul_comm (gk / 2), ← h2]
    · have c1 : (m % 2 == 0) = false := by simp; omega
      obtain ⟨e1, e2⟩ := split_end (a := a) (m := gk) (k := k) HR.out (by have := HG.out; omega) hA.out.1
      have HF : Hid ((spF a : Int) = m) := (show _ = _ by rw [e2]; exact HG.out.symm)
      have HE : Hid (spE a = x) := (show spE a = x by unfold spE; rw [if_neg HR.out, e1]; exact hA.out.2.symm)
      clear hev e1 e2
      go_wp2
      refine bodyPost_ret (v := .tuple #[.agg #[.bool (sgn a), .int .u64 (spF a), .int .i64 (spE a)], .bool true]) ?_ rfl ⟨rfl, ((Below.refl _ _).alloc (Nat.le_refl _) _).alloc (by simp) _⟩
      rw [HF.out, HE.out]
      simp [results, Tryd.results24, go_sem]

set_option maxRecDepth 100000 in
set_option maxHeartbeats 1000000 in
theorem rsplit_sub (a : Nat) (ha : a < 18446744073709551616) (hf : finB a = true) (hx : ¬ (0 : Int) < (expo a : Int)) (hr : rung a ≠ 0) (hmg : mg (rung a) = frc a) (hup : (up (rung a) : Int) = 0) (w : World) :
    Calls Tryd.prog 24 #[.float .f64 a] w fun e w' => e = .returned (.tuple #[.agg #[.bool (sgn a), .int .u64 (spF a), .int .i64 (spE a)], .bool true]) ∧ Below w.heap.size w w' := by
  have he := expo_lt a
  have hfr := frc_lt a
  have b1 : ((frc a : Int) == 0) = false := by have := mg_ne hr; simp; omega
  have HR : Hid (rung a ≠ 0) := hr
  have HM : Hid (mg (rung a) = frc a) := hmg
  have HU : Hid ((up (rung a) : Int) = 0) := hup
  clear hr hmg hup
  go_enter Tryd.func24, Tryd.ntmps24
  go_wp2_with (first | (go_at_call 48; refine (rfinite_any _ (by assumption) _).mono ?_; rintro e w' ⟨rfl, rfl⟩) | (go_at_call 49; refine (fields_any _ (by assumption) _).mono ?_; rintro e w' ⟨rfl, rfl⟩))
  go_loopg [] (frc a) (fun g wr => ∃ (k : Nat) (m x : Int), (w.alloc (.cells #[.bool false, .int .u64 0, .int .i64 0] 29)).alloc (.cells #[.bool (sgn a), .int .u64 m, .int .i64 x] 29) = wr ∧ m = (g : Int) ∧ Aside (g * 2 ^ k = mg (rung a) ∧ x = (up (rung a) : Int) - 1074 + k))
  case atStart => exact ⟨0, _, _, rfl, by rfl, ⟨by rw [HM.out]; simp, by rw [HU.out]; simp⟩⟩
  case round =>
    obtain ⟨k, m, x, rfl, hmg, hA⟩ := hrel
    have hbd := half_bd (a := a) hA.out.1 HR.out
    have hf1 := up_lt hf
    have hx1 : -1074 ≤ x ∧ x < 2100 := by have := hA.out.2; omega
    have hm0 : 0 < m := by omega
    have hm1 : m < 9007199254740992 := by omega
    have c0 : (m != 0) = true := by simp; omega
    have HG : Hid (m = (gk : Int)) := hmg
    have HB : Hid (0 < gk ∧ gk < 9007199254740992 ∧ k < 53) := hbd
    clear hbd hmg hf1
    by_cases hev : m % 2 = 0
    · have c1 : (m % 2 == 0) = true := by simp; omega
      have HV : Hid (m % 2 = 0) := hev
      clear hev
      go_wp2
      go_roundg (gk / 2)
      case measure => have := HB.out; omega
      case rel =>
        refine ⟨k + 1, _, _, rfl, by have := HG.out; have := HV.out; omega, ⟨?_, by have := hA.out.2; omega⟩⟩
        have h1 := hA.out.1
        have h2 : gk = 2 * (gk / 2) := by have := HG.out; have := HV.out; omega
        rw [← h1, Nat.pow_succ, Nat.mul_comm (2 ^ k), ← Nat.mul_assoc, Nat.mul_comm (gk / 2), ← h2]
    · have c1 : (m % 2 == 0) = false := by simp; omega
      obtain ⟨e1, e2⟩ := split_end (a := a) (m := gk) (k := k) HR.out (by have := HG.out; omega) hA.out.1
      have HF : Hid ((spF a : Int) = m) := (show _ = _ by rw [e2]; exact HG.out.symm)
      have HE : Hid (spE a = x) := (show spE a = x by unfold spE; rw [if_neg HR.out, e1]; exact hA.out.2.symm)
      clear hev e1 e2
      go_wp2
      refine bodyPost_ret (v := .tuple #[.agg #[.bool (sgn a), .int .u64 (spF a), .int .i64 (spE a)], .bool true]) ?_ rfl ⟨rfl, ((Below.refl _ _).alloc (Nat.le_refl _) _).alloc (by simp) _⟩
      rw [HF.out, HE.out]
      simp [results, Tryd.results24, go_sem]

end Go.Proofs.YtgkodomppebijaaDoor
