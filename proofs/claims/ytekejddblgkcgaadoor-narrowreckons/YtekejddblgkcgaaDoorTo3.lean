/- The document's To of a finite float that is not nought. -/
import Derived.Test.YtekejddblgkcgaaDoorTo2
import Derived.Deep.CutBlock
namespace Go.Proofs.YtekejddblgkcgaaDoor
open Go.RowKit

theorem bln_test {n b : Nat} (h : b < bln n) : ((n : Int) / 2 ^ b != 0) = true := by
  have e : (n : Int) / 2 ^ b = ((n / 2 ^ b : Nat) : Int) := by push_cast; rfl
  have := bln_more.2 h
  rw [e]; simp only [bne_iff_ne, ne_eq]
  omega
theorem bln_stop {n b : Nat} (h : ¬ b < bln n) : ((n : Int) / 2 ^ b != 0) = false := by
  have e : (n : Int) / 2 ^ b = ((n / 2 ^ b : Nat) : Int) := by push_cast; rfl
  have h1 : n / 2 ^ b = 0 := by
    rcases Nat.eq_zero_or_pos (n / 2 ^ b) with h1 | h1
    · exact h1
    · exact absurd (bln_more.1 (by omega)) h
  rw [e, h1]; rfl
set_option maxHeartbeats 400000 in
theorem cpn_any (w : World) :
    Calls Tryd.prog 24 #[.float .f64 0, .float .f64 13830554455654793216] w fun e w' => e = .returned (.float .f64 9223372036854775808) ∧ w' = w := by
  have ff := run_ffrom
  have f1 := run_fbits 0
  have f2 := run_fbits 13830554455654793216
  go_enter Tryd.func24, Tryd.ntmps24
  go_wp2
  go_ret
  exact ⟨end_flt (by kernel_rfl), rfl⟩
theorem mr_down (s : Bool) (rest half n : Nat) : mrB 1 s rest half n = (decide (0 < rest) && s) := rfl
theorem mr_up (s : Bool) (rest half n : Nat) : mrB 2 s rest half n = (decide (0 < rest) && !s) := rfl
theorem mr_nil (s : Bool) (rest half n : Nat) : mrB 3 s rest half n = false := rfl
theorem mr_near {m : Int} (h1 : m ≠ 1) (h2 : m ≠ 2) (h3 : m ≠ 3) (s : Bool) (rest half n : Nat) : mrB m s rest half n = (decide (half < rest) || (decide (rest = half) && n % 2 == 1)) := by
  unfold mrB; rw [if_neg h1, if_neg h2, if_neg h3]
theorem val_b {a b : Bool} (h : a = b) : Value.bool a = Value.bool b := by rw [h]
theorem val_u {a b : Int} (h : a = b) : Value.int .u64 a = Value.int .u64 b := by rw [h]
theorem val_i {a b : Int} (h : a = b) : Value.int .i64 a = Value.int .i64 b := by rw [h]
set_option maxRecDepth 100000 in
set_option maxHeartbeats 4000000 in
theorem rto_fin (x : Nat) (m : Int) (hx : x < 18446744073709551616) (hf : finB x = true) (h0 : rung x ≠ 0) (w : World) :
    Calls Tryd.prog 6 #[.float .f64 x, .int .i8 m] w fun e w' => e = .returned (.float .f32 (toS x m)) ∧ Below w.heap.size w w' := by
  obtain ⟨p1, p2, p3, p4, p5⟩ := sp_parts hf h0
  have nx : nanB x = false := by unfold finB at hf; unfold nanB; simp at hf ⊢; omega
  have q0 : (FloatKind.f64.format.order x 0 == some .eq) = false := by
    rw [eq_num hx (by omega) nx (by decide), decide_eq_false_iff_not]
    unfold place
    rw [show sgn 0 = false from rfl, show rung 0 = 0 from rfl]
    simp
    split <;> omega
  have HS : Hid (toS x m = Ieee.single.word (sgn x) (toSz (rung x) (sgn x) (toDn m (sgn x)) (toUp m (sgn x)))) := (show _ = _ by unfold toS; rw [if_neg h0, if_pos hf])
  obtain ⟨F, hF⟩ : ∃ F, spF x = F := ⟨_, rfl⟩
  obtain ⟨E, hE⟩ : ∃ E, spE x = E := ⟨_, rfl⟩
  obtain ⟨s, hs⟩ : ∃ s, sgn x = s := ⟨_, rfl⟩
  obtain ⟨T, hT⟩ : ∃ T, toS x m = T := ⟨_, rfl⟩
  rw [hs, hT] at HS
  rw [hF, hE] at p5
  rw [hF] at p1 p2
  rw [hE] at p3 p4
  rw [hT]
  have HV : Hid (val (rung x) = F * 2 ^ (E + 1074).toNat) := p5
  have H0 : Hid (rung x ≠ 0) := h0
  have hb : bln F ≤ 53 := bln_lt (by omega)
  clear p5 h0 hT nx
  go_enter Tryd.func6, Tryd.ntmps6
  go_wp2_with (first | (go_at_call 26; refine (rfinite_any _ (by assumption) _).mono ?_; rintro e w' ⟨rfl, rfl⟩) | (go_at_call 27; refine (rsplit_fin _ hx hf _).mono ?_; rw [hF, hE, hs]; rintro e w1 ⟨rfl, b1⟩))
  have c0 : (w1.alloc (Obj.cells #[Value.bool s, Value.int IntKind.u64 ↑F, Value.int IntKind.i64 E] 40)).cell? ⟨w1.heap.size, 0, none⟩ = some (.bool s) := by go_simp
  have c1 : (w1.alloc (Obj.cells #[Value.bool s, Value.int IntKind.u64 ↑F, Value.int IntKind.i64 E] 40)).cell? ⟨w1.heap.size, 1, none⟩ = some (.int .u64 F) := by go_simp
  have c2 : (w1.alloc (Obj.cells #[Value.bool s, Value.int IntKind.u64 ↑F, Value.int IntKind.i64 E] 40)).cell? ⟨w1.heap.size, 2, none⟩ = some (.int .i64 E) := by go_simp
  have bW : Below _ _ (w1.alloc (Obj.cells #[Value.bool s, Value.int IntKind.u64 ↑F, Value.int IntKind.i64 E] 40)) := b1.alloc b1.size _
  generalize (w1.alloc (Obj.cells #[Value.bool s, Value.int IntKind.u64 ↑F, Value.int IntKind.i64 E] 40)) = W at *
  clear hs hF hE hf q0 b1
  generalize w1.heap.size = P at *
  go_loop [7] (fun bv => ∃ b : Nat, bv = .int .i64 b ∧ b ≤ bln F) (fun bv => (64 - intOf bv).toNat)
  case atStart => exact ⟨0, rfl, by omega⟩
  case round =>
    obtain ⟨b, rfl, hbF⟩ := hrel
    have t1 : (b : Int) < 64 := by omega
    by_cases hc : b < bln F
    · have t2 := bln_test hc
      go_wp2
      go_round
      case rel => exact ⟨b + 1, by go_num, by omega⟩
      case measure => simp [intOf]; omega
    · have t2 := bln_stop hc
      have hbe : bln F = b := by omega
      have hl : bln F = F.log2 + 1 := by unfold bln; rw [if_neg p1]
      rw [hl] at hbe
      obtain ⟨u, hu⟩ : ∃ u, max (E + ((F.log2 + 1 : Nat) : Int) - 24) (-149) = u := ⟨_, rfl⟩
      have HU := hu
      rw [hbe] at hu
      have HB : Hid (F.log2 + 1 = b) := hbe
      have HU : Hid (max (E + ((F.log2 + 1 : Nat) : Int) - 24) (-149) = u) := HU
      have b53 : b ≤ 53 := by omega
      clear hbF hc hl hbe hb
      go_upto_region 7 with fail
      go_cut [8] from 41 (fun s8 wx => s8 = .int .i64 u ∧ wx = W)
      case first =>
        by_cases hm : E + b - 24 ≤ -149
        · have e : u = -149 := by omega
          clear hu
          go_wp2
          all_goals first
            | (exfalso; omega)
            | (go_meet; case rel => exact ⟨val_i (by omega), rfl⟩)
        · have e : u = E + b - 24 := by omega
          clear hu
          go_wp2
          all_goals first
            | (exfalso; omega)
            | (go_meet; case rel => exact ⟨val_i (by omega), rfl⟩)
      case rest =>
        obtain ⟨rfl, rfl⟩ := hcut
        have u1 : -149 ≤ u := by omega
        have u2 : u ≤ 1100 := by omega
        have u3 : E + b - 24 ≤ u := by omega
        clear hu
        go_upto_block 2 with fail
        go_cut [8, 9, 10, 11] from 53 (fun s8 s9 s10 s11 wx => ∃ (v : Int) (n rest half : Nat), s8 = .int .i64 v ∧ s9 = .int .u64 n ∧ s10 = .int .u64 rest ∧ s11 = .int .u64 half ∧ Kp (rung x) n (v + 149).toNat rest half ∧ -149 ≤ v ∧ v ≤ 1100 ∧ wx = wc)
        case first =>
          have hlt := Nat.lt_log2_self (n := F)
          by_cases d1 : u - E ≤ 0
          · have hF24 : F < 16777216 := by
              have := HB.out
              have h2 : (2 : Nat) ^ (F.log2 + 1) ≤ 2 ^ 24 := Nat.pow_le_pow_right (by omega) (by omega)
              omega
            have K := kp_all H0.out HV.out p1 hF24 (by omega)
            clear hlt
            go_wp2
            go_meet
            case rel => exact ⟨E, F, 0, 1, rfl, rfl, rfl, rfl, K, by omega, by omega, rfl⟩
          · by_cases d2 : 60 < u - E
            · have K := kp_none H0.out HV.out p3 p1 p2 (by have := HB.out; have := HU.out; omega)
              have hu0 : u = -149 := by have := HB.out; have := HU.out; omega
              have K' : Kp (rung x) 0 (u + 149).toNat 1 2 := by rw [hu0]; exact K
              clear hlt hu0
              go_wp2
              go_meet
              case rel => exact ⟨u, 0, 1, 2, rfl, rfl, rfl, rfl, K', by omega, by omega, rfl⟩
            · obtain ⟨d, hd⟩ : ∃ d : Nat, (d : Int) = u - E := ⟨(u - E).toNat, by omega⟩
              have K := kp_some H0.out HV.out p3 p1 p2 HU.out hd (by omega)
              obtain ⟨v1, v2, v3⟩ := cut_vals (d := d) p2 (by omega) (by omega)
              have hde : (u - E).toNat = d := by omega
              have hK : Hid (Kp (rung x) (F / 2 ^ d) (u + 149).toNat (F % 2 ^ d) (2 ^ (d - 1))) := K
              have V1 : Hid ((F : Int) / 2 ^ d = ((F / 2 ^ d : Nat) : Int)) := v1
              have V2 : Hid (IntKind.u64.wrap ((F : Int) - IntKind.u64.wrap ((F : Int) / 2 ^ d * 2 ^ d)) = ((F % 2 ^ d : Nat) : Int)) := v2
              have V3 : Hid (IntKind.u64.wrap (2 ^ (d - 1)) = ((2 ^ (d - 1) : Nat) : Int)) := v3
              have HD : Hid ((u - E).toNat = d) := hde
              have d3 : 0 < u - E := by omega
              clear hlt K v1 v2 v3 hde hd
              go_wp2
              go_meet
              case rel =>
                have e := HD.out
                refine ⟨u, F / 2 ^ d, F % 2 ^ d, 2 ^ (d - 1), rfl, val_u ?_, val_u ?_, val_u ?_, hK.out, by omega, by omega, rfl⟩
                · rw [e]; exact V1.out
                · rw [e]; exact V2.out
                · rw [e]; exact V3.out
        case rest =>
          obtain ⟨v, n, rest, half, rfl, rfl, rfl, rfl, K, v1, v2, rfl⟩ := hcut
          obtain ⟨k1, k2⟩ := mr_val K m s
          have k3 := mr_size K m s
          obtain ⟨mo, hmo⟩ : ∃ mo, mrB m s rest half n = mo := ⟨_, rfl⟩
          rw [hmo] at k1 k2 k3
          have nl := K.nl
          have HM : Hid (mrB m s rest half n = mo) := hmo
          have HK1 : Hid (S.val (flr (rung x) + mo.toNat) = (n + mo.toNat) * 2 ^ (v + 149).toNat) := k1
          have HK3 : Hid (toSz (rung x) s (toDn m s) (toUp m s) = if 2139095040 ≤ flr (rung x) + mo.toNat then (if awB m s then 2139095040 else 2139095039) else flr (rung x) + mo.toNat) := k3
          clear hmo k1 k3 K HU HB HV u1 u2 u3
          go_upto_block 3 with fail
          go_cut [13] from 78 (fun s13 wx => s13 = .bool mo ∧ wx = wc)
          case first =>
            by_cases m1 : m = 1
            · have t1 : (m == 1) = true := by simp [m1]
              have hm := HM.out
              rw [m1, mr_down] at hm
              by_cases hr : rest = 0
              · have r0 : ¬ (0 : Int) < (rest : Int) := by omega
                have e : mo = false := by rw [← hm]; simp [hr]
                clear m1 hm hr
                go_wp2
                go_meet
                case rel => exact ⟨val_b e.symm, rfl⟩
              · have r0 : (0 : Int) < (rest : Int) := by omega
                have e : mo = s := by rw [← hm]; simp; omega
                clear m1 hm hr
                go_wp2
                go_meet
                case rel => exact ⟨val_b e.symm, rfl⟩
            · have t1 : (m == 1) = false := by simp [m1]
              by_cases m2 : m = 2
              · have t2 : (m == 2) = true := by simp [m2]
                have hm := HM.out
                rw [m2, mr_up] at hm
                by_cases hr : rest = 0
                · have r0 : ¬ (0 : Int) < (rest : Int) := by omega
                  have e : mo = false := by rw [← hm]; simp [hr]
                  clear m1 m2 hm hr
                  go_wp2
                  go_meet
                  case rel => exact ⟨val_b e.symm, rfl⟩
                · have r0 : (0 : Int) < (rest : Int) := by omega
                  have e : mo = !s := by rw [← hm]; simp; omega
                  clear m1 m2 hm hr
                  go_wp2
                  go_meet
                  case rel => exact ⟨val_b e.symm, rfl⟩
              · have t2 : (m == 2) = false := by simp [m2]
                by_cases m3 : m = 3
                · have t3 : (m == 3) = true := by simp [m3]
                  have hm := HM.out
                  rw [m3, mr_nil] at hm
                  have e : mo = false := hm.symm
                  clear m1 m2 m3 hm
                  go_wp2
                  go_meet
                  case rel => exact ⟨val_b e.symm, rfl⟩
                · have t3 : (m == 3) = false := by simp [m3]
                  have hm := HM.out
                  rw [mr_near m1 m2 m3] at hm
                  by_cases r1 : half < rest
                  · have r0 : (half : Int) < (rest : Int) := by omega
                    have e : mo = true := by rw [← hm]; simp [r1]
                    clear m1 m2 m3 hm r1
                    go_wp2
                    go_meet
                    case rel => exact ⟨val_b e.symm, rfl⟩
                  · have r0 : ¬ (half : Int) < (rest : Int) := by omega
                    by_cases r2 : rest = half
                    · have r3 : ((rest : Int) == (half : Int)) = true := by simp [r2]
                      have e : mo = ((n : Int) % 2 == 1) := by
                        rw [← hm]; simp [r2]
                        rw [Bool.eq_iff_iff]; simp; omega
                      have e' : Hid (mo = ((n : Int) % 2 == 1)) := e
                      clear m1 m2 m3 hm r1 r2 e
                      go_wp2
                      go_meet
                      case rel => exact ⟨val_b e'.out.symm, rfl⟩
                    · have r3 : ((rest : Int) == (half : Int)) = false := by simp; omega
                      have e : mo = false := by rw [← hm]; simp [r1, r2]
                      clear m1 m2 m3 hm r1 r2
                      go_wp2
                      go_meet
                      case rel => exact ⟨val_b e.symm, rfl⟩
          case rest =>
            obtain ⟨rfl, rfl⟩ := hcut
            obtain ⟨N, hN⟩ : ∃ N, n + mo.toNat = N := ⟨_, rfl⟩
            rw [hN] at k2 HK1
            go_upto_if 110 with fail
            go_cut [9] from 111 (fun s9 wx => s9 = .int .u64 N ∧ wx = wc)
            case first =>
              cases mo
              · have e : (N : Int) = n := by simp at hN; omega
                have HE : Hid ((N : Int) = n) := e
                clear hN e
                go_wp2
                go_meet
                case rel => exact ⟨val_u HE.out.symm, rfl⟩
              · have e : (N : Int) = n + 1 := by simp at hN; omega
                have HE : Hid ((N : Int) = n + 1) := e
                clear hN e
                go_wp2
                go_meet
                case rel => exact ⟨val_u HE.out.symm, rfl⟩
            case rest =>
              obtain ⟨rfl, rfl⟩ := hcut
              obtain ⟨r, hr⟩ : ∃ r, flr (rung x) + mo.toNat = r := ⟨_, rfl⟩
              rw [hr] at HK1 HK3
              clear hr hN HM nl n
              have bN : bln N ≤ 25 := bln_lt (by omega)
              go_wp2
              go_loop [14] (fun bv => ∃ b : Nat, bv = .int .i64 b ∧ b ≤ bln N) (fun bv => (64 - intOf bv).toNat)
              case atStart => exact ⟨0, rfl, by omega⟩
              case round =>
                obtain ⟨h, rfl, hbF⟩ := hrel
                have t3 : (h : Int) < 64 := by omega
                by_cases hc : h < bln N
                · have t4 := bln_test hc
                  go_wp2
                  go_round
                  case rel => exact ⟨h + 1, by go_num, by omega⟩
                  case measure => simp [intOf]; omega
                · have t4 := bln_stop hc
                  have hbe : bln N = h := by omega
                  clear hc hbF
                  by_cases hN0 : N = 0
                  · have z1 : ((N : Int) != 0) = false := by simp [hN0]
                    have z2 : ((N : Int) == 0) = true := by simp [hN0]
                    have hr0 : r = 0 := by
                      have h1 := HK1.out
                      rw [hN0, Nat.zero_mul, ← S.val_zero] at h1
                      exact S.val_inj h1
                    have hT : T = Ieee.single.word s 0 := by
                      have h1 := HK3.out
                      rw [hr0, if_neg (by omega)] at h1
                      rw [HS.out, h1]
                    have hv : S.val 0 = N * 2 ^ (v + 149).toNat := by have h1 := HK1.out; rw [hr0] at h1; exact h1
                    have HT : Hid (T = Ieee.single.word s 0) := hT
                    have HV0 : Hid (S.val 0 = N * 2 ^ (v + 149).toNat) := hv
                    clear hN0 hr0 hT hv hbe
                    cases s
                    · go_wp2_with (first | (go_at_call 29; refine (nar_any _ _ _ 0 k2 v1 (by omega) (by omega) HV0.out _).mono ?_; rintro e w' ⟨rfl, rfl⟩))
                      go_ret
                      exact ⟨end_s HT.out.symm, bW⟩
                    · have hcv : ∀ w, (convert 22 25 (.float .f64 9223372036854775808)).run Tryd.prog w = .ok (.float .f32 2147483648) w := fun w => by
                        have := narrow_num (b := 2147483648) Tryd.underlying22 Tryd.underlying25 (by omega) (by decide) w
                        rw [show bk 2147483648 = 9223372036854775808 by decide +kernel] at this
                        exact this
                      go_wp2_with (first | (go_at_call 24; refine (cpn_any _).mono ?_; rintro e w' ⟨rfl, rfl⟩))
                      go_ret
                      exact ⟨end_s (HT.out.trans (by decide +kernel)).symm, bW⟩
                  · have z1 : ((N : Int) != 0) = true := by simp; omega
                    have z2 : ((N : Int) == 0) = false := by simp; omega
                    have hl : bln N = N.log2 + 1 := by unfold bln; rw [if_neg hN0]
                    have hg := great_iff HK1.out hN0
                    by_cases hgr : 2139095040 ≤ r
                    · have hT : T = endW m s := by
                        have h1 := HK3.out
                        rw [if_pos hgr] at h1
                        rw [HS.out, h1]; rfl
                      have t5 : 128 < v + (h : Int) := by have := hg.1 hgr; omega
                      have HT : Hid (T = endW m s) := hT
                      have h25 : h ≤ 25 := by omega
                      clear hN0 hT hbe hl hg hgr
                      go_wp2_with (first | (go_at_call 28; refine (ends_any _ _ _).mono ?_; rintro e w' ⟨rfl, rfl⟩))
                      go_ret
                      exact ⟨end_s HT.out.symm, bW⟩
                    · have hT : T = Ieee.single.word s r := by
                        have h1 := HK3.out
                        rw [if_neg hgr] at h1
                        rw [HS.out, h1]
                      have t5 : ¬ 128 < v + (h : Int) := by
                        intro c
                        exact hgr (hg.2 (by omega))
                      have HT : Hid (T = Ieee.single.word s r) := hT
                      have h25 : h ≤ 25 := by omega
                      have HR : Hid (¬ 2139095040 ≤ r) := hgr
                      clear hN0 hT hbe hl hg hgr
                      go_wp2_with (first | (go_at_call 29; refine (nar_any _ _ _ r k2 v1 (by omega) (by have := HR.out; omega) HK1.out _).mono ?_; rintro e w' ⟨rfl, rfl⟩))
                      go_ret
                      exact ⟨end_s HT.out.symm, bW⟩
end Go.Proofs.YtekejddblgkcgaaDoor
