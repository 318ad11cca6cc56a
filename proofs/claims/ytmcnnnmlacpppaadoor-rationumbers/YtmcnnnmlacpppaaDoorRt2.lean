/- What math/bits.Div64 answers. -/
import Derived.Test.YtmcnnnmlacpppaaDoorRt1
import Derived.Test.YtmcnnnmlacpppaaDoorRtK
import Derived.Deep.CutBlock
namespace Go.Proofs.YtmcnnnmlacpppaaDoor
open Go.RowKit

set_option maxHeartbeats 400000 in
theorem lz64_any (x : Nat) (h : x < 18446744073709551616) (w : World) :
    Calls Tryd.prog 65 #[.int .u64 x] w fun e w' => e = .returned (.int .i64 ((64 - bl x : Nat) : Int)) ∧ w' = w := by
  have hb : bl x ≤ 64 := bl_le_iff.2 (by omega)
  have hl := len64_any x h w
  generalize bl x = b at *
  go_enter Tryd.func65, Tryd.ntmps65
  go_wp2_with (go_at_call 62; refine hl.mono ?_; rintro e w' ⟨rfl, rfl⟩)
  go_ret
  exact ⟨retI (by omega), rfl⟩
theorem norm64 {hi lo y s : Nat} (h1 : hi < y) (hy : y < 18446744073709551616) (hlo : lo < 18446744073709551616) (hs : 64 - bl y = s) :
    ∃ Y u l : Int, IntKind.u64.wrap ((y : Int) * 2 ^ s) = Y ∧ IntKind.u64.wrap ((lo : Int) * 2 ^ s) = l ∧ bits BinOp.or IntKind.u64 (IntKind.u64.wrap ((hi : Int) * 2 ^ s)) ((lo : Int) / 2 ^ (64 - s)) = u ∧
      9223372036854775808 ≤ Y ∧ Y < 18446744073709551616 ∧ 0 ≤ u ∧ u < Y ∧ 0 ≤ l ∧ l < 18446744073709551616 ∧ (u * 18446744073709551616 + l) / Y = (((hi * 18446744073709551616 + lo) / y : Nat) : Int) := by
  have hb := bl_spec (v := y) (by omega)
  have hb2 : bl y ≤ 64 := bl_le_iff.2 (by omega)
  obtain ⟨b, hbe⟩ : ∃ b, bl y = b := ⟨_, rfl⟩
  rw [hbe] at hb hb2 hs
  have eP : 2 ^ (64 - s) * 2 ^ s = 18446744073709551616 := by rw [← Nat.pow_add, show 64 - s + s = 64 by omega, p64]
  have ep1 : 2 ^ (b - 1) * 2 ^ s = 9223372036854775808 := by rw [← Nat.pow_add, show b - 1 + s = 63 by omega]
  have ep2 : 2 ^ b * 2 ^ s = 18446744073709551616 := by rw [← Nat.pow_add, show b + s = 64 by omega, p64]
  have hS := Nat.two_pow_pos s
  have hT := Nat.two_pow_pos (64 - s)
  have y1 : 9223372036854775808 ≤ y * 2 ^ s := by rw [← ep1]; exact Nat.mul_le_mul_right _ hb.1
  have y2 : y * 2 ^ s < 18446744073709551616 := by rw [← ep2]; exact Nat.mul_lt_mul_of_pos_right hb.2.1 hS
  have hl : lo / 2 ^ (64 - s) < 2 ^ s := Nat.div_lt_of_lt_mul (by rw [eP]; exact hlo)
  have hu : (hi + 1) * 2 ^ s ≤ y * 2 ^ s := Nat.mul_le_mul_right _ h1
  rw [Nat.add_mul, Nat.one_mul] at hu
  have el : lo * 2 ^ s / 18446744073709551616 = lo / 2 ^ (64 - s) := by rw [← eP, Nat.mul_div_mul_right _ _ hS]
  have em := Nat.mod_add_div (lo * 2 ^ s) 18446744073709551616
  rw [el] at em
  have cy : (y : Int) * 2 ^ s = ((y * 2 ^ s : Nat) : Int) := by rw [Int.natCast_mul, Int.natCast_pow]; rfl
  have ch : (hi : Int) * 2 ^ s = ((hi * 2 ^ s : Nat) : Int) := by rw [Int.natCast_mul, Int.natCast_pow]; rfl
  have cl : (lo : Int) * 2 ^ s = ((lo * 2 ^ s : Nat) : Int) := by rw [Int.natCast_mul, Int.natCast_pow]; rfl
  have cd : (lo : Int) / 2 ^ (64 - s) = ((lo / 2 ^ (64 - s) : Nat) : Int) := by rw [Int.natCast_ediv, Int.natCast_pow]; rfl
  have eor : bits BinOp.or IntKind.u64 (IntKind.u64.wrap ((hi : Int) * 2 ^ s)) ((lo : Int) / 2 ^ (64 - s)) = ((hi * 2 ^ s + lo / 2 ^ (64 - s) : Nat) : Int) := by
    rw [ch, cd, IntKind.wrap_u64, show ((hi * 2 ^ s : Nat) : Int) % 18446744073709551616 = ((hi * 2 ^ s : Nat) : Int) by omega, u64_or_nat _ _ (by omega) (by omega), Nat.mul_comm, ← Nat.two_pow_add_eq_or_of_lt hl]
  refine ⟨((y * 2 ^ s : Nat) : Int), ((hi * 2 ^ s + lo / 2 ^ (64 - s) : Nat) : Int), ((lo * 2 ^ s % 18446744073709551616 : Nat) : Int), ?_, ?_, eor, by omega, by omega, by omega, by omega, by omega, by omega, ?_⟩
  · rw [cy, IntKind.wrap_u64]; omega
  · rw [cl, IntKind.wrap_u64]; omega
  · have e : ((hi * 2 ^ s + lo / 2 ^ (64 - s) : Nat) : Int) * 18446744073709551616 + ((lo * 2 ^ s % 18446744073709551616 : Nat) : Int) = (((hi * 18446744073709551616 + lo) * 2 ^ s : Nat) : Int) := by
      have : (hi * 2 ^ s + lo / 2 ^ (64 - s)) * 18446744073709551616 + lo * 2 ^ s % 18446744073709551616 = (hi * 18446744073709551616 + lo) * 2 ^ s := by
        rw [Nat.add_mul, Nat.add_mul, Nat.mul_right_comm]
        omega
      rw [← this, Int.natCast_add, Int.natCast_mul]
      rfl
    rw [e, ← Int.natCast_ediv, Nat.mul_div_mul_right _ _ hS]
theorem wrapU_id {z : Int} (h0 : 0 ≤ z) (h : z < 18446744073709551616) : IntKind.u64.wrap z = z := by rw [IntKind.wrap_u64]; omega
/-- What a half's remainder comes to, wrapped. -/
theorem left64 {u v q Y : Int} (hY : 0 < Y) (hY2 : Y < 18446744073709551616) (hq : q = (u * 4294967296 + v) / Y) : IntKind.u64.wrap (IntKind.u64.wrap (IntKind.u64.wrap (u * 4294967296) + v) - IntKind.u64.wrap (q * Y)) = (u * 4294967296 + v) % Y := by
  have e := Int.mul_ediv_add_emod (u * 4294967296 + v) Y
  have m0 := Int.emod_nonneg (u * 4294967296 + v) (show Y ≠ 0 by omega)
  have m1 := Int.emod_lt_of_pos (u * 4294967296 + v) hY
  rw [← hq, Int.mul_comm] at e
  simp only [IntKind.wrap_u64]
  generalize q * Y = Z at *
  omega
set_option maxRecDepth 100000 in
set_option maxHeartbeats 1000000 in
theorem div64_ex (hi lo y : Nat) (h1 : hi < y) (hy : y < 18446744073709551616) (hlo : lo < 18446744073709551616) :
    ∃ r : Int, ∀ w, Calls Tryd.prog 83 #[.int .u64 hi, .int .u64 lo, .int .u64 y] w fun e w' => e = .returned (.tuple #[.int .u64 (((hi * 18446744073709551616 + lo) / y : Nat) : Int), .int .u64 r]) ∧ ∃ n, w' = w.drewN n := by
  have t1 : ((y : Int) == 0) = false := by simp; omega
  have t2 : ¬ (y : Int) ≤ (hi : Int) := by omega
  obtain ⟨R, hR⟩ : ∃ R, (hi * 18446744073709551616 + lo) / y = R := ⟨_, rfl⟩
  rw [hR]
  have hR : Hid _ := hR
  by_cases h0 : hi = 0
  · subst h0
    have e : (R : Int) = (lo : Int) / y := by rw [← hR.out, Nat.zero_mul, Nat.zero_add, Int.natCast_ediv]
    have p0 : 0 ≤ (lo : Int) / y := Int.ediv_nonneg (by omega) (by omega)
    have p1 : (lo : Int) / y ≤ lo := Int.ediv_le_self _ (by omega)
    have e2 : IntKind.u64.wrap ((lo : Int).tdiv y) = (lo : Int) / y := by rw [Int.tdiv_eq_ediv_of_nonneg (by omega), wrapU_id p0 (by omega)]
    have y0 : (y : Int) ≠ 0 := by omega
    have HE : Hid ((R : Int) = (lo : Int) / y) := e
    clear e
    refine ⟨(lo : Int) % y, fun w => ?_⟩
    go_enter Tryd.func83, Tryd.ntmps83
    go_upto_region 6 with fail
    go_quiet (fail)
    go_wp2
    go_ret2
    exact ⟨ret2U HE.out.symm rfl, _, rfl⟩
  · have t3 : ((hi : Int) == 0) = false := by simp; omega
    have hl := lz64_any y hy
    obtain ⟨s, hs⟩ : ∃ s, 64 - bl y = s := ⟨_, rfl⟩
    rw [hs] at hl
    have hb := bl_spec (v := y) (by omega)
    have hb2 : bl y ≤ 64 := bl_le_iff.2 (by omega)
    have s1 : s ≤ 63 := by omega
    obtain ⟨Y, u, l, eY, el, eu, Y1, Y2, u0, u1, l0, l1, HR⟩ := norm64 h1 hy hlo hs
    rw [hR.out] at HR
    have HR : Hid _ := HR
    have m0 := and_low32 Y (by omega) Y2
    have n0 := and_low32 l l0 l1
    obtain ⟨y1, hy1⟩ : ∃ y1, Y / 4294967296 = y1 := ⟨_, rfl⟩
    obtain ⟨y0, hy0⟩ : ∃ y0, Y % 4294967296 = y0 := ⟨_, rfl⟩
    obtain ⟨v1, hv1⟩ : ∃ v1, l / 4294967296 = v1 := ⟨_, rfl⟩
    obtain ⟨v0, hv0⟩ : ∃ v0, l % 4294967296 = v0 := ⟨_, rfl⟩
    rw [hy0] at m0
    rw [hv0] at n0
    have a1 : 2147483648 ≤ y1 := by omega
    have a2 : y1 < 4294967296 := by omega
    have a3 : 0 ≤ y0 := by omega
    have a4 : y0 < 4294967296 := by omega
    have a5 : 0 ≤ v1 := by omega
    have a6 : v1 < 4294967296 := by omega
    have a7 : 0 ≤ v0 := by omega
    have a8 : v0 < 4294967296 := by omega
    have HY : Hid (Y = y1 * 4294967296 + y0) := (show _ = _ by omega)
    have HL : Hid (l = v1 * 4294967296 + v0) := (show _ = _ by omega)
    have T1 := dv_start (y1 := y1) (y0 := y0) (u := u) (v := v1) a1 a2 a3 a4 u0 (by have := HY.out; omega) a5 a6
    have b1 : IntKind.u64.wrap (u.tdiv y1) = u / y1 := by
      rw [Int.tdiv_eq_ediv_of_nonneg u0]
      exact wrapU_id T1.q0 (by have := T1.q2; omega)
    have b2 : IntKind.u64.wrap (u - IntKind.u64.wrap (u / y1 * y1)) = u - u / y1 * y1 := by
      have e := T1.e
      have r0 := T1.r0
      have r2 := T1.r2
      have : 0 ≤ u / y1 * y1 := Int.mul_nonneg T1.q0 (by omega)
      rw [wrapU_id this (by omega), wrapU_id r0 (by omega)]
    have z1 : y1 ≠ 0 := by omega
    obtain ⟨q, hq⟩ : ∃ q, u / y1 = q := ⟨_, rfl⟩
    obtain ⟨r, hr⟩ : ∃ r, u - q * y1 = r := ⟨_, rfl⟩
    rw [hq] at b1 b2 T1
    rw [hr] at b2 T1
    have S1 : Hid _ := T1
    clear T1
    clear hq hr hs hb hb2 hv0 hy0
    refine ⟨((u * 4294967296 + v1) % Y * 4294967296 + v0) % Y / 2 ^ s, fun w => ?_⟩
    obtain ⟨rr, hrr⟩ : ∃ rr, ((u * 4294967296 + v1) % Y * 4294967296 + v0) % Y / 2 ^ s = rr := ⟨_, rfl⟩
    rw [hrr]
    have hrr : Hid _ := hrr
    go_enter Tryd.func83, Tryd.ntmps83
    go_upto_block 0 with (go_at_call 65; refine (hl _).mono ?_; rintro e w' ⟨rfl, hww⟩; subst w')
    go_cut [15, 16] from 19 (fun sq sr wx => (∃ r, sr = .int .u64 r) ∧ sq = .int .u64 ((u * 4294967296 + v1) / Y) ∧ wx = w)
    case first =>
      go_wp2_with fail
      go_loopg [15, 16] q.toNat (fun g sq sr wr => ∃ q r : Int, g = q.toNat ∧ sq = .int .u64 q ∧ sr = .int .u64 r ∧ Hid (DvS y1 y0 u v1 q r) ∧ wr = w)
      case atStart => exact ⟨q, r, rfl, rfl, rfl, S1, rfl⟩
      case round =>
        clear S1 b1 b2
        obtain ⟨q, r, hg, rfl, rfl, hS, h'⟩ := hrel
        subst wr
        have p0 := hS.out.q0
        have p1 := hS.out.q2
        have p2 := hS.out.r0
        have p3 := hS.out.r2
        have hm := dv_more hS.out a1 a2 a3 a4 (by have := HY.out; omega) (by assumption) (by assumption)
        have hst := dv_stop hS.out a1 a3
        have pq : 0 ≤ q * y0 := Int.mul_nonneg p0 a3
        have pq2 : q * y0 ≤ 4294967297 * 4294967295 := Int.mul_le_mul p1 (by omega) a3 (by omega)
        have w1 : IntKind.u64.wrap (q * y0) = q * y0 := wrapU_id pq (by omega)
        have w2 : IntKind.u64.wrap (4294967296 * r) = 4294967296 * r := wrapU_id (by omega) (by omega)
        have w3 : IntKind.u64.wrap (4294967296 * r + v1) = 4294967296 * r + v1 := wrapU_id (by omega) (by omega)
        have w4 : IntKind.u64.wrap (r + y1) = r + y1 := wrapU_id (by omega) (by omega)
        have HG : Hid _ := hg
        rw [← HY.out] at hm hst
        clear hg
        by_cases c1 : 4294967296 ≤ q
        · obtain ⟨q1, m1, m2⟩ := hm (Or.inl c1)
          have w5 : IntKind.u64.wrap (q - 1) = q - 1 := wrapU_id (by omega) (by omega)
          have m1 : Hid _ := m1
          have m2 : Hid _ := m2
          clear hst
          by_cases c2 : 4294967296 ≤ r + y1
          · go_wp2
            go_meet
            exact ⟨⟨_, rfl⟩, rfl, rfl⟩
          · go_wp2
            go_roundg (q - 1).toNat
            case measure => rw [HG.out]; omega
            case rel => exact ⟨q - 1, r + y1, rfl, rfl, rfl, m1.out (by omega), rfl⟩
        · by_cases c3 : 4294967296 * r + v1 < q * y0
          · obtain ⟨q1, m1, m2⟩ := hm (Or.inr c3)
            have w5 : IntKind.u64.wrap (q - 1) = q - 1 := wrapU_id (by omega) (by omega)
            have m1 : Hid _ := m1
            have m2 : Hid _ := m2
            clear hst
            by_cases c2 : 4294967296 ≤ r + y1
            · go_wp2
              go_meet
              exact ⟨⟨_, rfl⟩, rfl, rfl⟩
            · go_wp2
              go_roundg (q - 1).toNat
              case measure => rw [HG.out]; omega
              case rel => exact ⟨q - 1, r + y1, rfl, rfl, rfl, m1.out (by omega), rfl⟩
          · have he := hst (by omega)
            have HE : Hid _ := he
            clear hm hst he
            go_wp2
            go_meet
            exact ⟨⟨_, rfl⟩, congrArg (Value.int .u64) HE.out, rfl⟩
    obtain ⟨⟨r1, rfl⟩, rfl, h'⟩ := hcut
    subst wc
    clear S1 b1 b2 hl eY el eu m0 n0 hy1 hv1 z1
    obtain ⟨q1, hq1⟩ : ∃ q1, (u * 4294967296 + v1) / Y = q1 := ⟨_, rfl⟩
    have eL := left64 (u := u) (v := v1) (q := q1) (Y := Y) (by omega) Y2 hq1.symm
    have c0 := Int.emod_nonneg (u * 4294967296 + v1) (show Y ≠ 0 by omega)
    have c1 := Int.emod_lt_of_pos (u * 4294967296 + v1) (show 0 < Y by omega)
    have g1 : 0 ≤ q1 := by rw [← hq1]; exact Int.ediv_nonneg (by omega) (by omega)
    have g2 : q1 < 4294967296 := by
      rw [← hq1]
      exact (Int.ediv_lt_iff_lt_mul (by omega)).2 (by omega)
    obtain ⟨x, hx⟩ : ∃ x, (u * 4294967296 + v1) % Y = x := ⟨_, rfl⟩
    rw [hx] at eL c0 c1
    rw [hq1]
    have HQ : Hid _ := hq1
    have HX : Hid _ := hx
    clear hq1 hx
    have T2 := dv_start (y1 := y1) (y0 := y0) (u := x) (v := v0) a1 a2 a3 a4 c0 (by have := HY.out; omega) a7 a8
    have b1 : IntKind.u64.wrap (x.tdiv y1) = x / y1 := by
      rw [Int.tdiv_eq_ediv_of_nonneg c0]
      exact wrapU_id T2.q0 (by have := T2.q2; omega)
    have b2 : IntKind.u64.wrap (x - IntKind.u64.wrap (x / y1 * y1)) = x - x / y1 * y1 := by
      have e := T2.e
      have r0 := T2.r0
      have r2 := T2.r2
      have : 0 ≤ x / y1 * y1 := Int.mul_nonneg T2.q0 (by omega)
      rw [wrapU_id this (by omega), wrapU_id r0 (by omega)]
    have z1 : y1 ≠ 0 := by omega
    obtain ⟨q, hq⟩ : ∃ q, x / y1 = q := ⟨_, rfl⟩
    obtain ⟨r, hr⟩ : ∃ r, x - q * y1 = r := ⟨_, rfl⟩
    rw [hq] at b1 b2 T2
    rw [hr] at b2 T2
    have S2 : Hid _ := T2
    clear T2
    clear hq hr
    go_upto_block 2 with fail
    go_cut [18, 16] from 19 (fun sq sr wx => (∃ r, sr = .int .u64 r) ∧ sq = .int .u64 ((x * 4294967296 + v0) / Y) ∧ wx = w)
    case first =>
      go_wp2_with fail
      go_loopg [18, 16] q.toNat (fun g sq sr wr => ∃ q r : Int, g = q.toNat ∧ sq = .int .u64 q ∧ sr = .int .u64 r ∧ Hid (DvS y1 y0 x v0 q r) ∧ wr = w)
      case atStart => exact ⟨q, r, rfl, rfl, rfl, S2, rfl⟩
      case round =>
        clear S2 b1 b2
        obtain ⟨q, r, hg, rfl, rfl, hS, h'⟩ := hrel
        subst wr
        have p0 := hS.out.q0
        have p1 := hS.out.q2
        have p2 := hS.out.r0
        have p3 := hS.out.r2
        have hm := dv_more hS.out a1 a2 a3 a4 (by have := HY.out; omega) (by assumption) (by assumption)
        have hst := dv_stop hS.out a1 a3
        have pq : 0 ≤ q * y0 := Int.mul_nonneg p0 a3
        have pq2 : q * y0 ≤ 4294967297 * 4294967295 := Int.mul_le_mul p1 (by omega) a3 (by omega)
        have w1 : IntKind.u64.wrap (q * y0) = q * y0 := wrapU_id pq (by omega)
        have w2 : IntKind.u64.wrap (4294967296 * r) = 4294967296 * r := wrapU_id (by omega) (by omega)
        have w3 : IntKind.u64.wrap (4294967296 * r + v0) = 4294967296 * r + v0 := wrapU_id (by omega) (by omega)
        have w4 : IntKind.u64.wrap (r + y1) = r + y1 := wrapU_id (by omega) (by omega)
        have HG : Hid _ := hg
        rw [← HY.out] at hm hst
        clear hg
        by_cases c1 : 4294967296 ≤ q
        · obtain ⟨q1, m1, m2⟩ := hm (Or.inl c1)
          have w5 : IntKind.u64.wrap (q - 1) = q - 1 := wrapU_id (by omega) (by omega)
          have m1 : Hid _ := m1
          have m2 : Hid _ := m2
          clear hst
          by_cases c2 : 4294967296 ≤ r + y1
          · go_wp2
            go_meet
            exact ⟨⟨_, rfl⟩, rfl, rfl⟩
          · go_wp2
            go_roundg (q - 1).toNat
            case measure => rw [HG.out]; omega
            case rel => exact ⟨q - 1, r + y1, rfl, rfl, rfl, m1.out (by omega), rfl⟩
        · by_cases c3 : 4294967296 * r + v0 < q * y0
          · obtain ⟨q1, m1, m2⟩ := hm (Or.inr c3)
            have w5 : IntKind.u64.wrap (q - 1) = q - 1 := wrapU_id (by omega) (by omega)
            have m1 : Hid _ := m1
            have m2 : Hid _ := m2
            clear hst
            by_cases c2 : 4294967296 ≤ r + y1
            · go_wp2
              go_meet
              exact ⟨⟨_, rfl⟩, rfl, rfl⟩
            · go_wp2
              go_roundg (q - 1).toNat
              case measure => rw [HG.out]; omega
              case rel => exact ⟨q - 1, r + y1, rfl, rfl, rfl, m1.out (by omega), rfl⟩
          · have he := hst (by omega)
            have HE : Hid _ := he
            clear hm hst he
            go_wp2
            go_meet
            exact ⟨⟨_, rfl⟩, congrArg (Value.int .u64) HE.out, rfl⟩
    obtain ⟨⟨r2, rfl⟩, rfl, h'⟩ := hcut
    subst wc
    clear S2 b1 b2 z1 eL
    obtain ⟨q0, hq0⟩ : ∃ q0, (x * 4294967296 + v0) / Y = q0 := ⟨_, rfl⟩
    have k1 : 0 ≤ q0 := by rw [← hq0]; exact Int.ediv_nonneg (by omega) (by omega)
    have k2 : q0 < 4294967296 := by
      rw [← hq0]
      exact (Int.ediv_lt_iff_lt_mul (by omega)).2 (by omega)
    have w1 : IntKind.u64.wrap (q1 * 4294967296) = q1 * 4294967296 := wrapU_id (by omega) (by omega)
    have w2 : IntKind.u64.wrap (q1 * 4294967296 + q0) = q1 * 4294967296 + q0 := wrapU_id (by omega) (by omega)
    have HF : Hid (q1 * 4294967296 + q0 = (R : Int)) := (show _ = _ by
      have e := dv_both (Y := Y) (u := u) (v1 := v1) (v0 := v0) (by omega)
      have h1 := HQ.out
      have h2 := HX.out
      have h3 := HR.out
      have h4 := HL.out
      rw [h1, h2, hq0] at e
      rw [e, ← h3, h4]
      congr 1
      omega)
    have hrest := left64 (u := x) (v := v0) (q := q0) (Y := Y) (by omega) Y2 hq0.symm
    have HRR : Hid ((x * 4294967296 + v0) % Y / 2 ^ s = rr) := (show _ = _ by have h1 := hrr.out; have h2 := HX.out; rw [h2] at h1; exact h1)
    rw [hq0]
    clear hq0
    generalize (x * 4294967296 + v0) % Y = zz at *
    go_wp2
    go_ret2
    exact ⟨ret2U HF.out HRR.out, 0, rfl⟩
end Go.Proofs.YtmcnnnmlacpppaaDoor
