/- What bitLen, trailingZeros and cut answer. -/
import Derived.Test.YtokfkooffbihcaaDoorDd
import Derived.Test.YtokfkooffbihcaaDoorWc
import Derived.Deep.LoopGhost
namespace Go.Proofs.YtokfkooffbihcaaDoor
open Go.RowKit

theorem bl_top {xs : List Nat} (hL : Lm xs) {m : Nat} (hm : m < xs.length) (hz : ∀ j, m < j → j < xs.length → xs.getD j 0 = 0) (hx : xs.getD m 0 ≠ 0) : bl (vl xs) = 64 * m + bl (xs.getD m 0) := by
  have e := vl_split xs (m + 1) (by omega)
  have z : vl (xs.drop (m + 1)) = 0 := vl_zero fun i hi => by
    rw [List.length_drop] at hi
    have := hz (m + 1 + i) (by omega) (by omega)
    rw [List.getD_eq_getElem?_getD] at this ⊢
    rw [List.getElem?_drop]; exact this
  rw [z, Nat.mul_zero, Nat.add_zero, vl_take_succ hm] at e
  rw [e, bl_join (vl_take_lt hL m) hx]
theorem vl_all_zero {xs : List Nat} (hz : ∀ j, j < xs.length → xs.getD j 0 = 0) : vl xs = 0 := vl_zero hz
theorem tz_low {xs : List Nat} (hL : Lm xs) {m : Nat} (hm : m < xs.length) (hz : ∀ j, j < m → xs.getD j 0 = 0) (hx : xs.getD m 0 ≠ 0) : tz (vl xs) = 64 * m + tz (xs.getD m 0) := by
  have e := vl_split xs m (by omega)
  have z : vl (xs.take m) = 0 := vl_zero fun i hi => by
    rw [List.length_take] at hi
    have := hz i (by omega)
    rw [List.getD_eq_getElem?_getD] at this ⊢
    rw [List.getElem?_take_of_lt (by omega)]; exact this
  have e2 : xs.drop m = xs.getD m 0 :: xs.drop (m + 1) := by
    rw [List.drop_eq_getElem_cons hm, List.getD_eq_getElem?_getD, List.getElem?_eq_getElem hm]; rfl
  rw [z, Nat.zero_add, e2, vl] at e
  have hb := hL.getD m
  have j := tz_join (a := xs.getD m 0) (b := vl (xs.drop (m + 1))) (n := 64) (by rw [p64]; exact hb) hx
  rw [p64] at j
  rw [e, Nat.mul_comm, tz_mul_pow (by omega), j, Nat.add_comm]

set_option maxHeartbeats 400000 in
theorem bitLen_any (xs : List Nat) (ao : Option Addr) (cap : Nat) (w : World) (hr : LRow w ao xs) (hL : Lm xs) (hn : xs.length ≤ 1125899906842624) :
    Calls Tryd.prog 31 #[.slice ao xs.length cap] w fun e w' => e = .returned (.int .i64 (bl (vl xs))) ∧ w' = w := by
  go_enter Tryd.func31, Tryd.ntmps31
  go_wp2
  go_loop [7] (fun i => ∃ k : Nat, k ≤ xs.length ∧ i = .int .i64 k ∧ Hid (∀ j, xs.length - k ≤ j → j < xs.length → xs.getD j 0 = 0)) (fun i => xs.length - (intOf i).toNat)
  case atStart => exact ⟨0, Nat.zero_le _, rfl, fun j h1 h2 => by omega⟩
  case round =>
    obtain ⟨k, hk, rfl, hz⟩ := hrel
    by_cases hlt : k < xs.length
    · rcases hr with h | ⟨b, off, rfl, hc⟩
      · omega
      · have g := hc (xs.length - 1 - k) (by omega)
        have hb := hL.getD (xs.length - 1 - k)
        obtain ⟨x, hx⟩ : ∃ x, xs.getD (xs.length - 1 - k) 0 = x := ⟨_, rfl⟩
        rw [hx] at g hb
        have HX : Hid (xs.getD (xs.length - 1 - k) 0 = x) := hx
        clear hc hx
        by_cases h0 : x = 0
        · subst h0
          go_wp2
          go_round
          case rel => exact ⟨k + 1, by omega, by go_num, fun j h1 h2 => by
            by_cases e : j = xs.length - 1 - k
            · rw [e]; exact HX.out
            · exact hz.out j (by omega) h2⟩
          case measure => simp [intOf]; omega
        · have hb0 : ((x : Int) != 0) = true := by simp; omega
          have HB : Hid (bl (vl xs) = 64 * (xs.length - 1 - k) + bl x) := by
            have := bl_top hL (m := xs.length - 1 - k) (by omega) (fun j h1 h2 => hz.out j (by omega) h2) (by rw [HX.out]; exact h0)
            rw [HX.out] at this
            exact this
          have hbl : bl x ≤ 64 := bl_le_iff.2 (by omega)
          clear hL
          go_wp2_with (go_at_call 50; refine (len64_any _ (by assumption) _).mono ?_; rintro e w' ⟨rfl, rfl⟩)
          go_ret
          exact ⟨retI (by rw [HB.out]; omega), rfl⟩
    · have HV : Hid (vl xs = 0) := (show vl xs = 0 from vl_zero fun j hj => hz.out j (by omega) hj)
      go_wp2
      go_ret
      exact ⟨retI (by rw [HV.out]; rfl), rfl⟩

set_option maxHeartbeats 400000 in
theorem trailing_any (xs : List Nat) (ao : Option Addr) (cap : Nat) (w : World) (hr : LRow w ao xs) (hL : Lm xs) (hT : TabW w) (hn : xs.length ≤ 1125899906842624) :
    Calls Tryd.prog 30 #[.slice ao xs.length cap] w fun e w' => e = .returned (.int .i64 (tz (vl xs))) ∧ w' = w := by
  go_enter Tryd.func30, Tryd.ntmps30
  go_wp2
  go_loop [6] (fun i => ∃ k : Nat, k ≤ xs.length ∧ i = .int .i64 k ∧ Hid (∀ j, j < k → xs.getD j 0 = 0)) (fun i => xs.length - (intOf i).toNat)
  case atStart => exact ⟨0, Nat.zero_le _, rfl, fun j h1 => by omega⟩
  case round =>
    obtain ⟨k, hk, rfl, hz⟩ := hrel
    by_cases hlt : k < xs.length
    · rcases hr with h | ⟨b, off, rfl, hc⟩
      · omega
      · have g := hc k (by omega)
        have hb := hL.getD k
        obtain ⟨x, hx⟩ : ∃ x, xs.getD k 0 = x := ⟨_, rfl⟩
        rw [hx] at g hb
        have HX : Hid (xs.getD k 0 = x) := hx
        clear hc hx
        by_cases h0 : x = 0
        · subst h0
          clear hT
          go_wp2
          go_round
          case rel => exact ⟨k + 1, by omega, by go_num, fun j h1 => by
            by_cases e : j = k
            · rw [e]; exact HX.out
            · exact hz.out j (by omega)⟩
          case measure => simp [intOf]; omega
        · have hb0 : ((x : Int) != 0) = true := by simp; omega
          have HB : Hid (tz (vl xs) = 64 * k + tz x) := by
            have := tz_low hL (m := k) (by omega) (fun j h1 => hz.out j h1) (by rw [HX.out]; exact h0)
            rw [HX.out] at this
            exact this
          have hzz := zeros_any x hb h0 w hT
          rw [ctz_tz hb h0] at hzz
          have htz : tz x < 64 := Nat.lt_of_lt_of_le (tz_lt_bl h0) (bl_le_iff.2 (by omega))
          clear hL hT
          go_wp2_with (go_at_call 49; refine hzz.mono ?_; rintro e w' ⟨rfl, rfl⟩)
          go_ret
          exact ⟨retI (by rw [HB.out]; omega), rfl⟩
    · have HV : Hid (vl xs = 0) := (show vl xs = 0 from vl_zero fun j hj => hz.out j (by omega))
      clear hT
      go_wp2
      go_ret
      exact ⟨retI (by rw [HV.out]; rfl), rfl⟩
end Go.Proofs.YtokfkooffbihcaaDoor
