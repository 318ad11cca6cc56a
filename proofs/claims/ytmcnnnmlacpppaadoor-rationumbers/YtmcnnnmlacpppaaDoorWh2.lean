/- Cmp, Shift of layer 7's package limbs: any limbs. -/
import Derived.Test.YtmcnnnmlacpppaaDoorWh1
import Derived.Test.YtmcnnnmlacpppaaDoorZl
namespace Go.Proofs.YtmcnnnmlacpppaaDoor
open Go.RowKit

theorem cmpI_nat_lt {A B : Nat} (h : A < B) : cmpI (A : Int) (B : Int) = -1 := cmpI_lt (by omega)
theorem cmpI_nat_gt {A B : Nat} (h : B < A) : cmpI (A : Int) (B : Int) = 1 := cmpI_gt (by omega)
set_option maxHeartbeats 1000000 in
theorem lcmp_any (xs ys : List Nat) (ao bo : Option Addr) (cap bcap : Nat) (w : World) (hr : LRow w ao xs) (hs : LRow w bo ys) (hL : Lm xs) (hM : Lm ys) (n1 : xs.length ≤ 100000) (n2 : ys.length ≤ 100000) :
    Calls Tryd.prog 55 #[.slice ao xs.length cap, .slice bo ys.length bcap] w fun e w' => e = .returned (.int .i64 (cmpI (vl xs) (vl ys))) ∧ w' = w := by
  obtain ⟨n, hn⟩ : ∃ n, max xs.length ys.length = n := ⟨_, rfl⟩
  have hmx : (if xs.length < ys.length then (ys.length : Int) else (xs.length : Int)) = (n : Int) := by split <;> omega
  have hA : vl xs < 2 ^ (64 * xs.length) := vl_lt hL
  have hB : vl ys < 2 ^ (64 * ys.length) := vl_lt hM
  have a : 2 ^ (64 * xs.length) ≤ 2 ^ (64 * n) := Nat.pow_le_pow_right (by omega) (by omega)
  have b : 2 ^ (64 * ys.length) ≤ 2 ^ (64 * n) := Nat.pow_le_pow_right (by omega) (by omega)
  have HH : Hid (vl xs / 2 ^ (64 * (n - 0)) = vl ys / 2 ^ (64 * (n - 0))) := (show _ = _ by rw [Nat.sub_zero, Nat.div_eq_of_lt (by omega), Nat.div_eq_of_lt (by omega)])
  have hx : Hid (∀ k : Nat, lmb xs (k : Int) = vl xs / 2 ^ (64 * k) % 18446744073709551616) := fun k => by unfold lmb; rw [if_neg (by omega)]; exact vl_digit hL k
  have hy : Hid (∀ k : Nat, lmb ys (k : Int) = vl ys / 2 ^ (64 * k) % 18446744073709551616) := fun k => by unfold lmb; rw [if_neg (by omega)]; exact vl_digit hM k
  have hn2 : n ≤ 100000 := by omega
  clear hA hB hn a b
  go_enter Tryd.func55, Tryd.ntmps55
  go_upto_region 2 with fail
  clear hmx
  go_wp2
  go_loopg [14] n (fun g i wr => ∃ k : Nat, k ≤ n ∧ g = n - k ∧ i = .int .i64 k ∧ Hid (vl xs / 2 ^ (64 * (n - k)) = vl ys / 2 ^ (64 * (n - k))) ∧ wr = w)
  case atStart => exact ⟨0, Nat.zero_le _, rfl, rfl, HH, rfl⟩
  case round =>
    obtain ⟨k, hk, hg, rfl, hz, rfl⟩ := hrel
    clear HH
    by_cases hlt : k < n
    · obtain ⟨j, hj⟩ : ∃ j, n - 1 - k = j := ⟨_, rfl⟩
      have hst := top_step (A := vl xs) (B := vl ys) (j := j) (by rw [← hj, show n - 1 - k + 1 = n - k by omega]; exact hz.out)
      have hst2 := top_step (A := vl ys) (B := vl xs) (j := j) (by rw [← hj, show n - 1 - k + 1 = n - k by omega]; exact hz.out.symm)
      have c1 := limb_any xs ao cap (j : Int) wr hr
      have c2 := limb_any ys bo bcap (j : Int) wr hs
      rw [hx.out j] at c1
      rw [hy.out j] at c2
      obtain ⟨x, hxk⟩ : ∃ x, vl xs / 2 ^ (64 * j) % 18446744073709551616 = x := ⟨_, rfl⟩
      obtain ⟨y, hyk⟩ : ∃ y, vl ys / 2 ^ (64 * j) % 18446744073709551616 = y := ⟨_, rfl⟩
      rw [hxk] at c1 hst hst2
      rw [hyk] at c2 hst hst2
      have ej : (n : Int) - 1 - (k : Int) = (j : Int) := by omega
      have cc := fun w => cmpU_any (x : Int) (y : Int) w
      rcases Nat.lt_trichotomy x y with h | h | h
      · rw [cmpI_nat_lt h] at cc
        have HE : Hid (cmpI (vl xs) (vl ys) = -1) := (show _ = _ from cmpI_nat_lt (hst.2 h))
        clear hst hst2 hxk hyk hj hz
        go_wp2_with (first | (go_at_call 70; refine (cc _).mono ?_; rintro e w' ⟨rfl, hww⟩; subst hww) | (go_at_call_of 71 (Value.slice ao xs.length cap); refine c1.mono ?_; rintro e w' ⟨rfl, hww⟩; subst hww) | (go_at_call_of 71 (Value.slice bo ys.length bcap); refine c2.mono ?_; rintro e w' ⟨rfl, hww⟩; subst hww))
        go_ret
        exact ⟨by rw [HE.out]; rfl, rfl⟩
      · subst h
        rw [cmpI_eq rfl] at cc
        have HN : Hid (vl xs / 2 ^ (64 * (n - (k + 1))) = vl ys / 2 ^ (64 * (n - (k + 1)))) := (show _ = _ by rw [show n - (k + 1) = j by omega]; exact hst.1 rfl)
        clear hst hst2 hxk hyk hj hz
        go_wp2_with (first | (go_at_call 70; refine (cc _).mono ?_; rintro e w' ⟨rfl, hww⟩; subst hww) | (go_at_call_of 71 (Value.slice ao xs.length cap); refine c1.mono ?_; rintro e w' ⟨rfl, hww⟩; subst hww) | (go_at_call_of 71 (Value.slice bo ys.length bcap); refine c2.mono ?_; rintro e w' ⟨rfl, hww⟩; subst hww))
        go_roundg (n - (k + 1))
        case measure => omega
        case rel => exact ⟨k + 1, by omega, rfl, by go_num, HN, rfl⟩
      · rw [cmpI_nat_gt h] at cc
        have HE : Hid (cmpI (vl xs) (vl ys) = 1) := (show _ = _ from cmpI_nat_gt (hst2.2 h))
        clear hst hst2 hxk hyk hj hz
        go_wp2_with (first | (go_at_call 70; refine (cc _).mono ?_; rintro e w' ⟨rfl, hww⟩; subst hww) | (go_at_call_of 71 (Value.slice ao xs.length cap); refine c1.mono ?_; rintro e w' ⟨rfl, hww⟩; subst hww) | (go_at_call_of 71 (Value.slice bo ys.length bcap); refine c2.mono ?_; rintro e w' ⟨rfl, hww⟩; subst hww))
        go_ret
        exact ⟨by rw [HE.out]; rfl, rfl⟩
    · have hkn : k = n := by omega
      have HE : Hid (cmpI (vl xs) (vl ys) = 0) := (show _ = _ from cmpI_eq (by
        have := hz.out
        rw [hkn, Nat.sub_self, Nat.mul_zero, Nat.pow_zero, Nat.div_one, Nat.div_one] at this
        rw [this]))
      clear hz hkn
      go_wp2
      go_ret
      exact ⟨by rw [HE.out]; rfl, rfl⟩
/-- Shift, of any number. -/
theorem lshift_any (xs : List Nat) (ao : Option Addr) (cap : Nat) (s : Int) (w : World) (hr : LRow w ao xs) (hL : Lm xs) (hn : xs.length ≤ 100000) (hs1 : 0 ≤ s) (hs2 : s ≤ 1000000) :
    Calls Tryd.prog 39 #[.slice ao xs.length cap, .int .i64 s] w (GaveLW w (vl xs * 2 ^ s.toNat)) := by
  by_cases h0 : vl xs = 0
  · refine (shift_none xs ao cap s 0 (by rw [h0]; rfl) w hr hL (by omega) (by omega) (by omega) (Or.inl rfl)).mono fun e w' ⟨he, hw⟩ => ?_
    subst he hw
    rw [h0, Nat.zero_mul]
    exact ⟨none, 0, rfl, ⟨Or.inl rfl, Nat.le_refl _, fun _ => rfl⟩, Below.refl _ _⟩
  · have hb := bl_pos h0
    have hb2 : bl (vl xs) ≤ 64 * xs.length := bl_le_iff.2 (vl_lt hL)
    obtain ⟨n, hn'⟩ : ∃ n : Nat, (n : Int) = ((bl (vl xs) : Int) + s + 64 - 1) / 64 := ⟨(((bl (vl xs) : Int) + s + 64 - 1) / 64).toNat, by omega⟩
    have e1 : bl (vl xs * 2 ^ s.toNat) = bl (vl xs) + s.toNat := bl_mul_pow h0
    have e2 : nl (vl xs * 2 ^ s.toNat) = n := by unfold nl; rw [e1]; omega
    refine (shift_any xs ao cap s (bl (vl xs)) n rfl hn' w hr hL (by omega) (by omega) (by omega) (by omega) (by omega) (by omega) (by omega)).mono fun e w' ⟨he, hF, hw⟩ => ?_
    subst he
    refine ⟨some ⟨w.heap.size, 0, none⟩, n, by rw [e2], ⟨FRow.lrow hF (by rw [lo_length, e2]) (fun j hj => ?_), by rw [lo_length, e2]; exact Nat.le_refl _, fun e => by cases e⟩, hw⟩
    unfold lo
    rw [tl_getD (by rw [e2]; exact hj)]
    have := win_up (vl xs) s.toNat j
    rw [← this]
    congr 1
    omega
end Go.Proofs.YtmcnnnmlacpppaaDoor
