/- What mixed answers. -/
import Derived.Test.YtmcnnnmlacpppaaDoorRt7
namespace Go.Proofs.YtmcnnnmlacpppaaDoor
open Go.RowKit

theorem toL_zero (n : Nat) : vl (toL n (fun _ => 0)) = 0 := by rw [toL_vl]; exact vF_zero fun _ _ => rfl
/-- A row laid into noughts, with what is carried: its number. -/
theorem vF_over {n k c : Nat} {o : List Nat} (hl : o.length = k) (hk : k < n) : vF n (fun j => if j = 0 + k then c else laidF (fun _ => 0) 0 k o j) = vl o + 2 ^ (64 * k) * c := by
  have e : vF n (laidF (fun _ => 0) 0 k o) = vl o := by
    obtain ⟨r, hr⟩ : ∃ r, n = 0 + (k + r) := ⟨n - k, by omega⟩
    rw [vF_laid hl hr, vF_zero (n := r) (fun _ _ => rfl)]
    simp [vF]
  rw [vF_put (by omega) (by unfold laidF; rw [if_neg (by omega)]), e, Nat.zero_add]
set_option maxRecDepth 100000 in
set_option maxHeartbeats 1000000 in
theorem mixed_any (xs ys : List Nat) (ao bo : Option Addr) (cap bcap : Nat) (p q : Int) (w : World) (hr : LRow w ao xs) (hs : LRow w bo ys) (hL : Lm xs) (hM : Lm ys) (x0 : xs.length ≠ 0) (y0 : ys.length ≠ 0) (n1 : xs.length ≤ 40000) (n2 : ys.length ≤ 40000)
    (hsg : (0 ≤ p ∧ q ≤ 0) ∨ (p ≤ 0 ∧ 0 ≤ q)) (hp : -4611686018427387904 ≤ p ∧ p ≤ 4611686018427387904) (hq : -4611686018427387904 ≤ q ∧ q ≤ 4611686018427387904) (Z : Nat) (hZ : p * vl xs + q * vl ys = (Z : Int)) (hx : 0 < vl xs) :
    Calls Tryd.prog 82 #[.slice ao xs.length cap, .slice bo ys.length bcap, .agg #[.int .i64 p, .int .i64 q]] w (GaveLW w Z) := by
  obtain ⟨n, en⟩ : ∃ n, max xs.length ys.length + 1 = n := ⟨_, rfl⟩
  have hmx : (if xs.length < ys.length then (ys.length : Int) else (xs.length : Int)) + 1 = (n : Int) := by split <;> omega
  have hmk := run_make_row' (P := Tryd.prog) 23 22 (.int .u64 0) 8 Tryd.underlying23 Tryd.infoU rfl .i64 .i64 n (by omega) (by omega)
  have ax : Apt (w.heap.size + 1) ao := hr.apt x0 (by omega)
  have ay : Apt (w.heap.size + 1) bo := hs.apt y0 (by omega)
  have HZ : Hid _ := hZ
  have m1 : xs.length < n := by omega
  have m2 : ys.length < n := by omega
  have m3 : n ≤ 50000 := by omega
  have hmade : FRow ((w.alloc (.cells #[.int .i64 p, .int .i64 q] 96)).alloc (.cells (madeCells #[.int .u64 0] n) 22)) (w.heap.size + 1) n (fun _ => 0) := by
    have := FRow.made (w.alloc (.cells #[.int .i64 p, .int .i64 q] 96)) n
    simpa using this
  have hbm : Below w.heap.size w ((w.alloc (.cells #[.int .i64 p, .int .i64 q] 96)).alloc (.cells (madeCells #[.int .u64 0] n) 22)) := ((Below.refl _ _).alloc (Nat.le_refl _) _).alloc (by simp) _
  have b0 : ((w.alloc (.cells #[.int .i64 p, .int .i64 q] 96)).alloc (.cells (madeCells #[.int .u64 0] n) 22)).cell? ⟨w.heap.size, 0, none⟩ = some (.int .i64 p) := by go_simp
  have b1 : ((w.alloc (.cells #[.int .i64 p, .int .i64 q] 96)).alloc (.cells (madeCells #[.int .u64 0] n) 22)).cell? ⟨w.heap.size, 1, none⟩ = some (.int .i64 q) := by go_simp
  clear en hZ
  go_enter Tryd.func82, Tryd.ntmps82
  go_upto_region 2 with fail
  generalize (w.alloc (.cells #[.int .i64 p, .int .i64 q] 96)).alloc (.cells (madeCells #[.int .u64 0] n) 22) = W1 at *
  generalize (if xs.length < ys.length then (ys.length : Int) else (xs.length : Int)) = mm at *
  clear hmx hmk
  go_quiet (fail)
  have A0 := Alike.drewN (w := W1) nq
  generalize W1.drewN nq = W2 at *
  go_upto_if 22 with fail
  go_cut [0, 1, 8, 9] from 10 (fun s0 s1 s8 s9 wx => ∃ (X Y : List Nat) (xo yo : Option Addr) (xc yc : Nat) (P M : Nat), s0 = .slice xo X.length xc ∧ s1 = .slice yo Y.length yc ∧ s8 = .int .i64 (P : Int) ∧ s9 = .int .i64 (-(M : Int)) ∧ LRow w xo X ∧ LRow w yo Y ∧ Apt (w.heap.size + 1) xo ∧ Apt (w.heap.size + 1) yo ∧ Lm X ∧ Lm Y ∧ X.length < n ∧ Y.length < n ∧ P ≤ 4611686018427387904 ∧ M ≤ 4611686018427387904 ∧ Hid (vl X * P = Z + vl Y * M) ∧ wx = W2)
  case first =>
    by_cases hc : 0 < q
    · have hp0 : p ≤ 0 := by omega
      go_wp2
      go_meet
      refine ⟨ys, xs, bo, ao, bcap, cap, q.toNat, (-p).toNat, rfl, rfl, congrArg (Value.int .i64) (by omega), congrArg (Value.int .i64) (by omega), hs, hr, ay, ax, hM, hL, m2, m1, by omega, by omega, ?_, rfl⟩
      have h1 := HZ.out
      have h2 : (q.toNat : Int) = q := by omega
      have h3 : ((-p).toNat : Int) = -p := by omega
      show vl ys * q.toNat = Z + vl xs * (-p).toNat
      apply Int.ofNat.inj
      show ((vl ys * q.toNat : Nat) : Int) = ((Z + vl xs * (-p).toNat : Nat) : Int)
      rw [Int.natCast_add, Int.natCast_mul, Int.natCast_mul, h2, h3]
      grind
    · have hq0 : q ≤ 0 := by omega
      have hp0 : 0 ≤ p := by
        rcases hsg with h | h
        · exact h.1
        · have hqz : q = 0 := by omega
          have h1 := HZ.out
          rw [hqz, Int.zero_mul, Int.add_zero] at h1
          refine Int.not_lt.1 fun hl => ?_
          have := Int.mul_neg_of_neg_of_pos hl (show (0 : Int) < (vl xs : Int) by omega)
          omega
      go_wp2
      go_meet
      refine ⟨xs, ys, ao, bo, cap, bcap, p.toNat, (-q).toNat, rfl, rfl, congrArg (Value.int .i64) (by omega), congrArg (Value.int .i64) (by omega), hr, hs, ax, ay, hL, hM, m1, m2, by omega, by omega, ?_, rfl⟩
      have h1 := HZ.out
      have h2 : (p.toNat : Int) = p := by omega
      have h3 : ((-q).toNat : Int) = -q := by omega
      show vl xs * p.toNat = Z + vl ys * (-q).toNat
      apply Int.ofNat.inj
      show ((vl xs * p.toNat : Nat) : Int) = ((Z + vl ys * (-q).toNat : Nat) : Int)
      rw [Int.natCast_add, Int.natCast_mul, Int.natCast_mul, h2, h3]
      grind
  clear hr hs ax ay hL hM x0 y0 n1 n2 hsg hp hq HZ hx m1 m2 b0 b1
  obtain ⟨X, Y, xo, yo, xc, yc, P, M, rfl, rfl, rfl, rfl, hX, hY, ax, ay, lX, lY, m1, m2, p1, p2, HE, h'⟩ := hcut
  subst wc
  have hb2 := hbm.trans (A0.below _)
  have hr2 := A0.frow hmade
  clear hmade hbm A0
  have hta : Lm (toL X.length (fun _ => 0)) := toL_lm fun _ _ => by omega
  have ck := addTimesK_any W2 X (toL X.length (fun _ => 0)) xo xc n (w.heap.size + 1) n 0 P (fun _ => 0) (hX.below hb2) ax hr2 lX hta (toL_length _ _) (fun j hj => by rw [toL_getD hj]) (by omega) (by omega) (by omega) (by omega) (by omega)
  have j1 : (X.length : Int) ≤ (n : Int) := by omega
  have j2 : (X.length : Int) < (n : Int) := by omega
  have w1 : IntKind.u64.wrap (P : Int) = (P : Int) := wrapU_id (by omega) (by omega)
  have w2 : IntKind.u64.wrap (M : Int) = (M : Int) := wrapU_id (by omega) (by omega)
  go_upto_region 6 with (go_at_call 72; refine ck.mono ?_; rintro e w3 ⟨o, c, rfl, hR, hF3, hk3⟩; have g1 := hF3.cell (i := X.length) (by omega); have g2 := World.rowIs.frozen hF3 X.length)
  have hset : FRow (w3.setCell ⟨w.heap.size + 1, X.length, none⟩ (.int .u64 ((c : Nat) : Int))) (w.heap.size + 1) n (fun j => if j = 0 + X.length then c else laidF (fun _ => 0) 0 X.length o j) := by
    have := hF3.set X.length c
    rw [Nat.zero_add]
    exact this
  have hks := hk3.setCell X.length (.int .u64 ((c : Nat) : Int))
  have hbs := hb2.trans (hks.below (B := w.heap.size) (by omega))
  have hv := vF_over (c := c) (n := n) hR.2.1 m1
  have hc0 : c < 18446744073709551616 := hR.2.2.1
  have hfl : ∀ j, j < n → (fun j => if j = 0 + X.length then c else laidF (fun _ => 0) 0 X.length o j) (0 + j) < 18446744073709551616 := fun j _ => by
    show (if 0 + j = 0 + X.length then c else laidF (fun _ => 0) 0 X.length o (0 + j)) < _
    split
    · exact hc0
    · unfold laidF
      split
      · exact hR.1.getD _
      · show (0 : Nat) < 18446744073709551616; omega
  have hR4 := hR.2.2.2
  rw [List.take_of_length_le (show (toL X.length (fun _ => 0)).length ≤ X.length by rw [toL_length]; exact Nat.le_refl _), toL_zero, Nat.zero_add, List.take_length] at hR4
  rw [hR4] at hv
  have hv2 : vF n (fun j => (fun j => if j = 0 + X.length then c else laidF (fun _ => 0) 0 X.length o j) (0 + j)) = vl X * P := by
    rw [← hv]
    exact vF_congr fun j _ => by show (if 0 + j = 0 + X.length then c else laidF (fun _ => 0) 0 X.length o (0 + j)) = (if j = 0 + X.length then c else laidF (fun _ => 0) 0 X.length o j); rw [Nat.zero_add j]
  generalize (fun j => if j = 0 + X.length then c else laidF (fun _ => 0) 0 X.length o j) = F at *
  generalize w3.setCell ⟨w.heap.size + 1, X.length, none⟩ (.int .u64 ((c : Nat) : Int)) = w4 at *
  have cT := takeTimes_any (w.heap.size + 1) n 0 n M yc n F Y yo w4 hset hfl (hY.below hbs) ay lY m2 (by omega) (by omega) (by omega) (Nat.le_refl _)
  unfold GaveT at cT
  rw [hv2] at cT
  have HFE : Hid (∀ (out : List Nat) (c' : Nat), Lm out → out.length = n → vl out + vl Y * M = vl X * P + 2 ^ (64 * n) * c' → vl out = Z) := fun out c' q1 q2 q3 => by
    have he := HE.out
    have hl := vl_lt q1
    rw [q2] at hl
    rcases Nat.eq_zero_or_pos c' with h | h
    · subst h; omega
    · have := Nat.mul_le_mul_left (2 ^ (64 * n)) h
      omega
  clear hv hv2 hR4 hfl hset hks g1 g2 hF3 hk3 hR ck hc0 hr2 hta j1 j2 hX ax lX m1
  go_upto_region 7 with (go_at_call 84; refine cT.mono ?_; rintro e w5 ⟨out, c', rfl, q1, q2, q3, q4, hF5, hk5⟩)
  have hvz := HFE.out out c' q1 q2 q4
  have hlr : LS w5 (some ⟨w.heap.size + 1, 0, none⟩) n out := ⟨FRow.lrow hF5 q2 (fun j hj => by unfold laidF; rw [if_pos (by omega), Nat.sub_zero]), by omega, fun e => by cases e⟩
  have ct := trimL_any out (some ⟨w.heap.size + 1, 0, none⟩) n w5 hlr q1 (by omega)
  have hT := hlr.trim q1
  rw [hvz] at ct hT
  rw [q2] at ct
  have hb5 := hbs.trans (hk5.below (B := w.heap.size) (by omega))
  clear hF5 hk5 hlr q1 q2 q3 q4 hvz cT HFE
  go_wp2_with (go_at_call 43; refine ct.mono ?_; rintro e w6 ⟨rfl, hww⟩; subst w6)
  go_ret
  exact ⟨_, _, rfl, hT, hb5⟩
end Go.Proofs.YtmcnnnmlacpppaaDoor
