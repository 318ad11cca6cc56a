/- What Common answers: the greatest divisor in common. -/
import Derived.Test.YtnclddfljghebaaGreatDoorRR
import Derived.Test.YtnclddfljghebaaGreatDoorQ2
namespace Go.Proofs.YtnclddfljghebaaGreatDoor
open Go.RowKit

set_option maxHeartbeats 400000 in
theorem comLimb_any (a b : Nat) (ha : a < 18446744073709551616) (hb : b < 18446744073709551616) (w : World) :
    Calls Tryz.prog 102 #[.int .u64 a, .int .u64 b] w fun e w' => e = .returned (.int .u64 (Nat.gcd a b : Nat)) ∧ Below w.heap.size w w' := by
  go_enter Tryz.func102, Tryz.ntmps102
  go_wp2
  obtain ⟨G, eG⟩ : ∃ G, Nat.gcd a b = G := ⟨_, rfl⟩
  go_loopg [0, 1] b (fun gg s0 s1 wr => ∃ a' b' : Nat, gg = b' ∧ s0 = .int .u64 a' ∧ s1 = .int .u64 b' ∧ a' < 18446744073709551616 ∧ b' < 18446744073709551616 ∧ Hid (Nat.gcd a' b' = G) ∧ Below w.heap.size w wr)
  case atStart => exact ⟨a, b, rfl, rfl, rfl, ha, hb, eG, Below.refl _ _⟩
  case round =>
    obtain ⟨a', b', hg, rfl, rfl, h1, h2, hG, hw⟩ := hrel
    have HG : Hid _ := hg
    have HE : Hid _ := eG
    clear hg eG ha hb
    by_cases h0 : b' = 0
    · subst h0
      have hz := hG.out
      rw [Nat.gcd_zero_right] at hz
      have HZ : Hid (a' = Nat.gcd a b) := (show _ = _ by rw [hz, HE.out])
      clear hz hG
      go_wp2
      go_ret
      exact ⟨congrArg (fun z : Nat => Ending.returned (.int .u64 (z : Int))) HZ.out, hw⟩
    · have t1 : ((b' : Int) == 0) = false := by simp; omega
      have t2 : ((b' : Int) != 0) = true := by simp; omega
      have t3 : (b' : Int) ≠ 0 := by omega
      have hm : a' % b' < b' := Nat.mod_lt _ (by omega)
      have e1 : (a' : Int) % (b' : Int) = ((a' % b' : Nat) : Int) := by rw [Int.natCast_emod]
      have e2 : (a' : Int).tmod (b' : Int) = ((a' % b' : Nat) : Int) := by rw [Int.tmod_eq_emod_of_nonneg (by omega), e1]
      have HN : Hid (Nat.gcd b' (a' % b') = G) := (show _ = _ by rw [Nat.gcd_comm, ← Nat.gcd_rec, Nat.gcd_comm]; exact hG.out)
      obtain ⟨r, er⟩ : ∃ r, a' % b' = r := ⟨_, rfl⟩
      rw [er] at hm e1 e2 HN
      clear er hG
      go_upto_region 2 with fail
      go_quiet (fail)
      go_wp2
      go_roundg r
      case measure => rw [HG.out]; omega
      case rel => exact ⟨b', r, rfl, rfl, by first | rfl | (congr 1), h2, by omega, HN, hw.trans ((Alike.drewN _).below _)⟩
theorem wrapI_id {z : Int} (h0 : -9223372036854775808 ≤ z) (h : z < 9223372036854775808) : IntKind.i64.wrap z = z := by rw [IntKind.wrap_i64]; omega
/-- A box of four cells. -/
structure B4 (w : World) (b : Nat) (x y z u : Value) : Prop where
  c0 : w.cell? ⟨b, 0, none⟩ = some x
  c1 : w.cell? ⟨b, 1, none⟩ = some y
  c2 : w.cell? ⟨b, 2, none⟩ = some z
  c3 : w.cell? ⟨b, 3, none⟩ = some u
  f0 : w.frozen? ⟨b, 0, none⟩ = false
  f1 : w.frozen? ⟨b, 1, none⟩ = false
  f2 : w.frozen? ⟨b, 2, none⟩ = false
  f3 : w.frozen? ⟨b, 3, none⟩ = false
theorem B4.fill {w : World} {g : Nat} {x y z u : Value} (h : B4 w g x y z u) (a b c d : Value) : B4 ((((w.setCell ⟨g, 0, none⟩ a).setCell ⟨g, 1, none⟩ b).setCell ⟨g, 2, none⟩ c).setCell ⟨g, 3, none⟩ d) g a b c d := by
  obtain ⟨c0, c1, c2, c3, f0, f1, f2, f3⟩ := h
  exact ⟨by go_simp, by go_simp, by go_simp, by go_simp, by go_simp, by go_simp, by go_simp, by go_simp⟩
theorem B4.other {w : World} {b g : Nat} {x y z u : Value} (h : B4 w b x y z u) (hn : b ≠ g) (a1 b1 c1 d1 : Value) : B4 ((((w.setCell ⟨g, 0, none⟩ a1).setCell ⟨g, 1, none⟩ b1).setCell ⟨g, 2, none⟩ c1).setCell ⟨g, 3, none⟩ d1) b x y z u := by
  obtain ⟨c0, c1, c2, c3, f0, f1, f2, f3⟩ := h
  exact ⟨by simp [go_sem, c0], by simp [go_sem, c1], by simp [go_sem, c2], by simp [go_sem, c3], by simp [go_sem, f0], by simp [go_sem, f1], by simp [go_sem, f2], by simp [go_sem, f3]⟩
theorem Below.four {B : Nat} {w w' : World} (h : Go.RowKit.Below B w w') {g : Nat} (hg : B ≤ g) (a b c d : Value) : Go.RowKit.Below B w ((((w'.setCell ⟨g, 0, none⟩ a).setCell ⟨g, 1, none⟩ b).setCell ⟨g, 2, none⟩ c).setCell ⟨g, 3, none⟩ d) :=
  (((h.setCell (p := ⟨g, 0, none⟩) hg _).setCell (p := ⟨g, 1, none⟩) hg _).setCell (p := ⟨g, 2, none⟩) hg _).setCell (p := ⟨g, 3, none⟩) hg _
def GaveF4 (w : World) (A B : Int) (e : Ending) (w' : World) : Prop := ∃ x y a0 a1 b0 b1 : Int, e = .returned (.agg #[.int .i64 a0, .int .i64 a1, .int .i64 b0, .int .i64 b1]) ∧ FoS A B x y a0 a1 b0 b1 ∧ Below w.heap.size w w'
set_option maxRecDepth 100000 in
set_option maxHeartbeats 1000000 in
theorem foresee_any (A B : Int) (hA : 1 ≤ A) (hA2 : A < 4611686018427387904) (hB : 0 ≤ B) (hBA : B ≤ A) (w : World) :
    Calls Tryz.prog 103 #[.int .i64 A, .int .i64 B] w (GaveF4 w A B) := by
  have S0 : Hid (FoS A B A B 1 0 0 1) := FoS.start hA hB hBA
  go_enter Tryz.func103, Tryz.ntmps103
  have R0 : B4 ((w.alloc (.cells #[.int .i64 0, .int .i64 0, .int .i64 0, .int .i64 0] 102)).alloc (.cells #[.int .i64 1, .int .i64 0, .int .i64 0, .int .i64 1] 102)) w.heap.size (.int .i64 0) (.int .i64 0) (.int .i64 0) (.int .i64 0) := ⟨by go_simp, by go_simp, by go_simp, by go_simp, by go_simp, by go_simp, by go_simp, by go_simp⟩
  have M0 : B4 ((w.alloc (.cells #[.int .i64 0, .int .i64 0, .int .i64 0, .int .i64 0] 102)).alloc (.cells #[.int .i64 1, .int .i64 0, .int .i64 0, .int .i64 1] 102)) (w.heap.size + 1) (.int .i64 1) (.int .i64 0) (.int .i64 0) (.int .i64 1) := ⟨by go_simp, by go_simp, by go_simp, by go_simp, by go_simp, by go_simp, by go_simp, by go_simp⟩
  have B0 : Below w.heap.size w ((w.alloc (.cells #[.int .i64 0, .int .i64 0, .int .i64 0, .int .i64 0] 102)).alloc (.cells #[.int .i64 1, .int .i64 0, .int .i64 0, .int .i64 1] 102)) := ((Below.refl _ _).alloc (Nat.le_refl _) _).alloc (by simp) _
  go_upto_region 2 with fail
  generalize (w.alloc (.cells #[.int .i64 0, .int .i64 0, .int .i64 0, .int .i64 0] 102)).alloc (.cells #[.int .i64 1, .int .i64 0, .int .i64 0, .int .i64 1] 102) = W0 at *
  go_loopg [0, 1, 6] B.toNat (fun gg s0 s1 s6 wr => ∃ x y a0 a1 b0 b1 : Int, gg = y.toNat ∧ s0 = .int .i64 x ∧ s1 = .int .i64 y ∧ Hid (FoS A B x y a0 a1 b0 b1) ∧ B4 wr w.heap.size (.int .i64 0) (.int .i64 0) (.int .i64 0) (.int .i64 0) ∧ B4 wr (w.heap.size + 1) (.int .i64 a0) (.int .i64 a1) (.int .i64 b0) (.int .i64 b1) ∧ Below w.heap.size w wr)
  case atStart => exact ⟨A, B, 1, 0, 0, 1, rfl, rfl, rfl, S0, R0, M0, B0⟩
  case round =>
    clear S0 R0 M0 B0
    obtain ⟨x, y, a0, a1, b0, b1, hg, rfl, rfl, hS, R0, M0, B0⟩ := hrel
    have HG : Hid _ := hg
    clear hg
    have ba := hS.out.ba
    have bb := hS.out.bb
    have lx := hS.out.lx
    have ly := hS.out.ly
    have xa := hS.out.xa
    have yb := hS.out.yb
    have ps := hS.out.pos
    obtain ⟨r0, r1, r2, r3, p0, p1, p2, p3⟩ := id R0
    obtain ⟨m0, m1, m2, m3, n0, n1, n2, n3⟩ := id M0
    by_cases h0 : y + b0 = 0
    · go_wp2
      exact bodyPost_ret (v := .agg #[.int .i64 a0, .int .i64 a1, .int .i64 b0, .int .i64 b1]) (by simp [results, Tryz.results103, go_sem, r0, r1, r2, r3]) rfl ⟨x, y, a0, a1, b0, b1, rfl, hS.out, Below.four B0 (Nat.le_refl _) _ _ _ _⟩
    · by_cases h1 : y + b1 = 0
      · have t0 : ((y + b0) != 0) = true := by simp; exact h0
        go_wp2
        exact bodyPost_ret (v := .agg #[.int .i64 a0, .int .i64 a1, .int .i64 b0, .int .i64 b1]) (by simp [results, Tryz.results103, go_sem, r0, r1, r2, r3]) rfl ⟨x, y, a0, a1, b0, b1, rfl, hS.out, Below.four B0 (Nat.le_refl _) _ _ _ _⟩
      · have t0 : ((y + b0) != 0) = true := by simp; exact h0
        have t1 : ((y + b1) != 0) = true := by simp; exact h1
        have d0 : (x + a0).tdiv (y + b0) = (x + a0) / (y + b0) := Int.tdiv_eq_ediv_of_nonneg xa.1
        have d1 : (x + a1).tdiv (y + b1) = (x + a1) / (y + b1) := Int.tdiv_eq_ediv_of_nonneg xa.2
        have k0 : 0 ≤ (x + a0) / (y + b0) := Int.ediv_nonneg xa.1 yb.1
        have k1 : (x + a0) / (y + b0) ≤ x + a0 := Int.ediv_le_self _ xa.1
        have k2 : 0 ≤ (x + a1) / (y + b1) := Int.ediv_nonneg xa.2 yb.2
        have k3 : (x + a1) / (y + b1) ≤ x + a1 := Int.ediv_le_self _ xa.2
        have hst := fun (h : (x + a0) / (y + b0) = (x + a1) / (y + b1)) => hS.out.step (q := (x + a0) / (y + b0)) hB hBA h0 h1 rfl h
        obtain ⟨q, eq⟩ : ∃ q, (x + a0) / (y + b0) = q := ⟨_, rfl⟩
        obtain ⟨q', eq'⟩ : ∃ q', (x + a1) / (y + b1) = q' := ⟨_, rfl⟩
        rw [eq] at d0 k0 k1 hst
        rw [eq'] at d1 k2 k3 hst
        have v0 : IntKind.i64.wrap q = q := wrapI_id (by omega) (by omega)
        have v1 : IntKind.i64.wrap q' = q' := wrapI_id (by omega) (by omega)
        have u0 : IntKind.i64.wrap (x + a0) = x + a0 := wrapI_id (by omega) (by omega)
        have u1 : IntKind.i64.wrap (x + a1) = x + a1 := wrapI_id (by omega) (by omega)
        have u2 : IntKind.i64.wrap (y + b0) = y + b0 := wrapI_id (by omega) (by omega)
        have u3 : IntKind.i64.wrap (y + b1) = y + b1 := wrapI_id (by omega) (by omega)
        by_cases hq : q = q'
        · obtain ⟨hN, _, _, hlt⟩ := hst hq
          subst hq
          have nb := hN.bb
          have ns := hN.pos
          have e1 : ∃ z, q * b0 = z := ⟨_, rfl⟩
          have e2 : ∃ z, q * b1 = z := ⟨_, rfl⟩
          have e3 : ∃ z, q * y = z := ⟨_, rfl⟩
          have o0 : IntKind.i64.wrap (q * b0) = q * b0 := wrapI_id (by omega) (by omega)
          have o1 : IntKind.i64.wrap (q * b1) = q * b1 := wrapI_id (by omega) (by omega)
          have o2 : IntKind.i64.wrap (q * y) = q * y := wrapI_id (by omega) (by omega)
          have o3 : IntKind.i64.wrap (a0 - q * b0) = a0 - q * b0 := wrapI_id (by omega) (by omega)
          have o4 : IntKind.i64.wrap (a1 - q * b1) = a1 - q * b1 := wrapI_id (by omega) (by omega)
          have o5 : IntKind.i64.wrap (x - q * y) = x - q * y := wrapI_id (by omega) (by omega)
          have HN : Hid _ := hN
          have HLT : Hid _ := hlt
          have HNS : Hid _ := ns
          clear hN hst eq eq' e1 e2 e3 hlt ns nb
          have RN := R0.other (g := w.heap.size + 1) (by omega) (.int .i64 b0) (.int .i64 b1) (.int .i64 (a0 - q * b0)) (.int .i64 (a1 - q * b1))
          have MN := M0.fill (.int .i64 b0) (.int .i64 b1) (.int .i64 (a0 - q * b0)) (.int .i64 (a1 - q * b1))
          have BN := Below.four B0 (g := w.heap.size + 1) (by omega) (.int .i64 b0) (.int .i64 b1) (.int .i64 (a0 - q * b0)) (.int .i64 (a1 - q * b1))
          clear R0 M0 B0
          go_wp2
          go_roundg (x - q * y).toNat
          case measure => rw [HG.out]; have := HLT.out; have := HNS.out; omega
          case rel => exact ⟨y, x - q * y, b0, b1, a0 - q * b0, a1 - q * b1, rfl, rfl, rfl, HN.out, RN, MN, BN⟩
        · have t2 : (q != q') = true := by simpa using hq
          have t3 : (q == q') = false := by simpa using hq
          clear hst eq eq'
          go_wp2
          exact bodyPost_ret (v := .agg #[.int .i64 a0, .int .i64 a1, .int .i64 b0, .int .i64 b1]) (by simp [results, Tryz.results103, go_sem, r0, r1, r2, r3]) rfl ⟨x, y, a0, a1, b0, b1, rfl, hS.out, Below.four B0 (Nat.le_refl _) _ _ _ _⟩
end Go.Proofs.YtnclddfljghebaaGreatDoor

namespace Go.Proofs.YtnclddfljghebaaGreatDoor
open Go.RowKit

theorem toL_zero (n : Nat) : vl (toL n (fun _ => 0)) = 0 := by rw [toL_vl]; exact vF_zero fun _ _ => rfl
/-- A row laid into noughts, with what is carried: its number. -/
theorem vF_over {n k c : Nat} {o : List Nat} (hl : o.length = k) (hk : k < n) : vF n (fun j => if j = 0 + k then c else laidF (fun _ => 0) 0 k o j) = vl o + 2 ^ (64 * k) * c := by
  have e : vF n (laidF (fun _ => 0) 0 k o) = vl o := by
    obtain ⟨r, hr⟩ : ∃ r, n = 0 + (k + r) := ⟨n - k, by omega⟩
    rw [vF_laid hl hr, vF_zero (n := r) (fun _ _ => rfl)]
    simp [vF]
  rw [vF_put (by omega) (by unfold laidF; rw [if_neg (by omega)]), e, Nat.zero_add]
set_option maxRecDepth 100000 in
set_option maxHeartbeats 1000000 in
theorem mixed_any (xs ys : List Nat) (ao bo : Option Addr) (cap bcap : Nat) (p q : Int) (w : World) (hr : LRow w ao xs) (hs : LRow w bo ys) (hL : Lm xs) (hM : Lm ys) (x0 : xs.length ≠ 0) (y0 : ys.length ≠ 0) (n1 : xs.length ≤ 40000) (n2 : ys.length ≤ 40000)
    (hsg : (0 ≤ p ∧ q ≤ 0) ∨ (p ≤ 0 ∧ 0 ≤ q)) (hp : -4611686018427387904 ≤ p ∧ p ≤ 4611686018427387904) (hq : -4611686018427387904 ≤ q ∧ q ≤ 4611686018427387904) (Z : Nat) (hZ : p * vl xs + q * vl ys = (Z : Int)) (hx : 0 < vl xs) :
    Calls Tryz.prog 104 #[.slice ao xs.length cap, .slice bo ys.length bcap, .agg #[.int .i64 p, .int .i64 q]] w (GaveLW w Z) := by
  obtain ⟨n, en⟩ : ∃ n, max xs.length ys.length + 1 = n := ⟨_, rfl⟩
  have hmx : (if xs.length < ys.length then (ys.length : Int) else (xs.length : Int)) + 1 = (n : Int) := by split <;> omega
  have hmk := run_make_row' (P := Tryz.prog) 22 46 (.int .u64 0) 8 Tryz.underlying22 Tryz.infoU rfl .i64 .i64 n (by omega) (by omega)
  have ax : Apt (w.heap.size + 1) ao := hr.apt x0 (by omega)
  have ay : Apt (w.heap.size + 1) bo := hs.apt y0 (by omega)
  have HZ : Hid _ := hZ
  have m1 : xs.length < n := by omega
  have m2 : ys.length < n := by omega
  have m3 : n ≤ 50000 := by omega
  have hmade : FRow ((w.alloc (.cells #[.int .i64 p, .int .i64 q] 100)).alloc (.cells (madeCells #[.int .u64 0] n) 46)) (w.heap.size + 1) n (fun _ => 0) := by
    have := FRow.made (w.alloc (.cells #[.int .i64 p, .int .i64 q] 100)) n
    simpa using this
  have hbm : Below w.heap.size w ((w.alloc (.cells #[.int .i64 p, .int .i64 q] 100)).alloc (.cells (madeCells #[.int .u64 0] n) 46)) := ((Below.refl _ _).alloc (Nat.le_refl _) _).alloc (by simp) _
  have b0 : ((w.alloc (.cells #[.int .i64 p, .int .i64 q] 100)).alloc (.cells (madeCells #[.int .u64 0] n) 46)).cell? ⟨w.heap.size, 0, none⟩ = some (.int .i64 p) := by go_simp
  have b1 : ((w.alloc (.cells #[.int .i64 p, .int .i64 q] 100)).alloc (.cells (madeCells #[.int .u64 0] n) 46)).cell? ⟨w.heap.size, 1, none⟩ = some (.int .i64 q) := by go_simp
  clear en hZ
  go_enter Tryz.func104, Tryz.ntmps104
  go_upto_region 2 with fail
  generalize (w.alloc (.cells #[.int .i64 p, .int .i64 q] 100)).alloc (.cells (madeCells #[.int .u64 0] n) 46) = W1 at *
  generalize (if xs.length < ys.length then (ys.length : Int) else (xs.length : Int)) = mm at *
  clear hmx hmk
  go_quiet (fail)
  have A0 := Alike.drewN (w := W1) nq
  generalize W1.drewN nq = W2 at *
  go_upto_if 22 with fail
  go_cut [0, 1, 8, 9] from 10 (fun s0 s1 s8 s9 wx => ∃ (X Y : List Nat) (xo yo : Option Addr) (xc yc : Nat) (P M : Nat), s0 = .slice xo X.length xc ∧ s1 = .slice yo Y.length yc ∧ s8 = .int .i64 (P : Int) ∧ s9 = .int .i64 (-(M : Int)) ∧ LRow w xo X ∧ LRow w yo Y ∧ Apt (w.heap.size + 1) xo ∧ Apt (w.heap.size + 1) yo ∧ Lm X ∧ Lm Y ∧ X.length < n ∧ Y.length < n ∧ P ≤ 4611686018427387904 ∧ M ≤ 4611686018427387904 ∧ Hid (vl X * P = Z + vl Y * M) ∧ wx = W2)
  case first =>
    by_cases hc : 0 < q
    · have hp0 : p ≤ 0 := by omega
      go_wp2
      go_meet
      refine ⟨ys, xs, bo, ao, bcap, cap, q.toNat, (-p).toNat, rfl, rfl, congrArg (Value.int .i64) (by omega), congrArg (Value.int .i64) (by omega), hs, hr, ay, ax, hM, hL, m2, m1, by omega, by omega, ?_, rfl⟩
      have h1 := HZ.out
      have h2 : (q.toNat : Int) = q := by omega
      have h3 : ((-p).toNat : Int) = -p := by omega
      show vl ys * q.toNat = Z + vl xs * (-p).toNat
      apply Int.ofNat.inj
      show ((vl ys * q.toNat : Nat) : Int) = ((Z + vl xs * (-p).toNat : Nat) : Int)
      rw [Int.natCast_add, Int.natCast_mul, Int.natCast_mul, h2, h3]
      grind
    · have hq0 : q ≤ 0 := by omega
      have hp0 : 0 ≤ p := by
        rcases hsg with h | h
        · exact h.1
        · have hqz : q = 0 := by omega
          have h1 := HZ.out
          rw [hqz, Int.zero_mul, Int.add_zero] at h1
          refine Int.not_lt.1 fun hl => ?_
          have := Int.mul_neg_of_neg_of_pos hl (show (0 : Int) < (vl xs : Int) by omega)
          omega
      go_wp2
      go_meet
      refine ⟨xs, ys, ao, bo, cap, bcap, p.toNat, (-q).toNat, rfl, rfl, congrArg (Value.int .i64) (by omega), congrArg (Value.int .i64) (by omega), hr, hs, ax, ay, hL, hM, m1, m2, by omega, by omega, ?_, rfl⟩
      have h1 := HZ.out
      have h2 : (p.toNat : Int) = p := by omega
      have h3 : ((-q).toNat : Int) = -q := by omega
      show vl xs * p.toNat = Z + vl ys * (-q).toNat
      apply Int.ofNat.inj
      show ((vl xs * p.toNat : Nat) : Int) = ((Z + vl ys * (-q).toNat : Nat) : Int)
      rw [Int.natCast_add, Int.natCast_mul, Int.natCast_mul, h2, h3]
      grind
  clear hr hs ax ay hL hM x0 y0 n1 n2 hsg hp hq HZ hx m1 m2 b0 b1
  obtain ⟨X, Y, xo, yo, xc, yc, P, M, rfl, rfl, rfl, rfl, hX, hY, ax, ay, lX, lY, m1, m2, p1, p2, HE, h'⟩ := hcut
  subst wc
  have hb2 := hbm.trans (A0.below _)
  have hr2 := A0.frow hmade
  clear hmade hbm A0
  have hta : Lm (toL X.length (fun _ => 0)) := toL_lm fun _ _ => by omega
  have ck := addTimesK_any W2 X (toL X.length (fun _ => 0)) xo xc n (w.heap.size + 1) n 0 P (fun _ => 0) (hX.below hb2) ax hr2 lX hta (toL_length _ _) (fun j hj => by rw [toL_getD hj]) (by omega) (by omega) (by omega) (by omega) (by omega)
  have j1 : (X.length : Int) ≤ (n : Int) := by omega
  have j2 : (X.length : Int) < (n : Int) := by omega
  have w1 : IntKind.u64.wrap (P : Int) = (P : Int) := wrapU_id (by omega) (by omega)
  have w2 : IntKind.u64.wrap (M : Int) = (M : Int) := wrapU_id (by omega) (by omega)
  go_upto_region 6 with (go_at_call 97; refine ck.mono ?_; rintro e w3 ⟨o, c, rfl, hR, hF3, hk3⟩; have g1 := hF3.cell (i := X.length) (by omega); have g2 := World.rowIs.frozen hF3 X.length)
  have hset : FRow (w3.setCell ⟨w.heap.size + 1, X.length, none⟩ (.int .u64 ((c : Nat) : Int))) (w.heap.size + 1) n (fun j => if j = 0 + X.length then c else laidF (fun _ => 0) 0 X.length o j) := by
    have := hF3.set X.length c
    rw [Nat.zero_add]
    exact this
  have hks := hk3.setCell X.length (.int .u64 ((c : Nat) : Int))
  have hbs := hb2.trans (hks.below (B := w.heap.size) (by omega))
  have hv := vF_over (c := c) (n := n) hR.2.1 m1
  have hc0 : c < 18446744073709551616 := hR.2.2.1
  have hfl : ∀ j, j < n → (fun j => if j = 0 + X.length then c else laidF (fun _ => 0) 0 X.length o j) (0 + j) < 18446744073709551616 := fun j _ => by
    show (if 0 + j = 0 + X.length then c else laidF (fun _ => 0) 0 X.length o (0 + j)) < _
    split
    · exact hc0
    · unfold laidF
      split
      · exact hR.1.getD _
      · show (0 : Nat) < 18446744073709551616; omega
  have hR4 := hR.2.2.2
  rw [List.take_of_length_le (show (toL X.length (fun _ => 0)).length ≤ X.length by rw [toL_length]; exact Nat.le_refl _), toL_zero, Nat.zero_add, List.take_length] at hR4
  rw [hR4] at hv
  have hv2 : vF n (fun j => (fun j => if j = 0 + X.length then c else laidF (fun _ => 0) 0 X.length o j) (0 + j)) = vl X * P := by
    rw [← hv]
    exact vF_congr fun j _ => by show (if 0 + j = 0 + X.length then c else laidF (fun _ => 0) 0 X.length o (0 + j)) = (if j = 0 + X.length then c else laidF (fun _ => 0) 0 X.length o j); rw [Nat.zero_add j]
  generalize (fun j => if j = 0 + X.length then c else laidF (fun _ => 0) 0 X.length o j) = F at *
  generalize w3.setCell ⟨w.heap.size + 1, X.length, none⟩ (.int .u64 ((c : Nat) : Int)) = w4 at *
  have cT := takeTimes_any (w.heap.size + 1) n 0 n M yc n F Y yo w4 hset hfl (hY.below hbs) ay lY m2 (by omega) (by omega) (by omega) (Nat.le_refl _)
  unfold GaveT at cT
  rw [hv2] at cT
  have HFE : Hid (∀ (out : List Nat) (c' : Nat), Lm out → out.length = n → vl out + vl Y * M = vl X * P + 2 ^ (64 * n) * c' → vl out = Z) := fun out c' q1 q2 q3 => by
    have he := HE.out
    have hl := vl_lt q1
    rw [q2] at hl
    rcases Nat.eq_zero_or_pos c' with h | h
    · subst h; omega
    · have := Nat.mul_le_mul_left (2 ^ (64 * n)) h
      omega
  clear hv hv2 hR4 hfl hset hks g1 g2 hF3 hk3 hR ck hc0 hr2 hta j1 j2 hX ax lX m1
  go_upto_region 7 with (go_at_call 106; refine cT.mono ?_; rintro e w5 ⟨out, c', rfl, q1, q2, q3, q4, hF5, hk5⟩)
  have hvz := HFE.out out c' q1 q2 q4
  have hlr : LS w5 (some ⟨w.heap.size + 1, 0, none⟩) n out := ⟨FRow.lrow hF5 q2 (fun j hj => by unfold laidF; rw [if_pos (by omega), Nat.sub_zero]), by omega, fun e => by cases e⟩
  have ct := trimL_any out (some ⟨w.heap.size + 1, 0, none⟩) n w5 hlr q1 (by omega)
  have hT := hlr.trim q1
  rw [hvz] at ct hT
  rw [q2] at ct
  have hb5 := hbs.trans (hk5.below (B := w.heap.size) (by omega))
  clear hF5 hk5 hlr q1 q2 q3 q4 hvz cT HFE
  go_wp2_with (go_at_call 35; refine ct.mono ?_; rintro e w6 ⟨rfl, hww⟩; subst w6)
  go_ret
  exact ⟨_, _, rfl, hT, hb5⟩
end Go.Proofs.YtnclddfljghebaaGreatDoor

namespace Go.Proofs.YtnclddfljghebaaGreatDoor
open Go.RowKit

theorem Tryz.und2 : Tryz.prog.underlying 100 = some (.array 2 2) := by kernel_rfl
theorem Tryz.undI : Tryz.prog.underlying 2 = some (.int .i64) := by kernel_rfl
theorem Tryz.infoI : (Tryz.prog.info? 2).map (fun i => (i.zero, i.size, i.bytes)) = some (some (.int .i64 0), 1, 8) := by kernel_rfl
theorem eqin_two (a b c e : Int) (w : World) : (Op.equalIn 10000 100 (.agg #[.int .i64 a, .int .i64 b]) (.agg #[.int .i64 c, .int .i64 e])).run Tryz.prog w = .ok (a == c && b == e) w := by
  have h1 : ∀ w, (Op.equalIn 9999 2 (.int .i64 a) (.int .i64 c)).run Tryz.prog w = .ok (a == c) w := fun w => run_equalIn_int w 9998 2 .i64 .i64 a c Tryz.undI
  have h2 : ∀ w, (Op.equalIn 9999 2 (.int .i64 b) (.int .i64 e)).run Tryz.prog w = .ok (b == e) w := fun w => run_equalIn_int w 9998 2 .i64 .i64 b e Tryz.undI
  have hs : ∀ w, (sizeOf 2).run Tryz.prog w = .ok 1 w := fun w => by kernel_rfl
  have hp0 : ∀ w (x y : Int), (part 2 #[.int .i64 x, .int .i64 y] 0).run Tryz.prog w = .ok (.int .i64 x) w := fun w x y => by kernel_rfl
  have hp1 : ∀ w (x y : Int), (part 2 #[.int .i64 x, .int .i64 y] 1).run Tryz.prog w = .ok (.int .i64 y) w := fun w x y => by kernel_rfl
  unfold Op.equalIn
  simp only [Sem.run_bind, run_underlying Tryz.und2, Result.andThen_ok, hs]
  simp [List.range', hp0, hp1, h1, h2]
  by_cases ha : a = c <;> by_cases hb : b = e <;> simp [ha, hb]
theorem guard_two : Tryz.prog.eqGuardType Tryz.prog.depth 100 = false := by kernel_rfl
end Go.Proofs.YtnclddfljghebaaGreatDoor

namespace Go.Proofs.YtnclddfljghebaaGreatDoor
open Go.RowKit

/-- Two later numbers of Euclid's row. -/
def GaveOn (w : World) (A B : Nat) (e : Ending) (w' : World) : Prop :=
  ∃ (A' B' : Nat) (ao bo : Option Addr) (cap bcap : Nat), e = .returned (.tuple #[.slice ao (nl A') cap, .slice bo (nl B') bcap]) ∧ LS w' ao cap (lo A') ∧ LS w' bo bcap (lo B') ∧ B' < B ∧ B' ≤ A' ∧ A' ≤ A ∧ Nat.gcd A' B' = Nat.gcd A B ∧ Below w.heap.size w w'
theorem blW_mono {a b : Nat} (h : a ≤ b) : bl a ≤ bl b := bl_le_iff.2 (Nat.lt_of_le_of_lt h (bl_le_iff.1 (Nat.le_refl _)))
theorem nlR_mono {a b : Nat} (h : a ≤ b) : nl a ≤ nl b := by have := blW_mono h; unfold nl; omega
theorem nlR_pos {z : Nat} (h : z ≠ 0) : 0 < nl z := by
  have := bl_pos h
  unfold nl
  omega
theorem lo_one {a : Nat} (h0 : a ≠ 0) (h : a < 18446744073709551616) : nl a = 1 ∧ lo a = [a] := by
  have hn : nl a = 1 := by
    have h1 := bl_pos h0
    have h2 : bl a ≤ 64 := bl_le_iff.2 (by omega)
    unfold nl
    omega
  refine ⟨hn, ?_⟩
  unfold lo
  rw [hn]
  simp [tl]
  omega
/-- Of two numbers' heads: what stands below them, and that they fit. -/
theorem heads {A B l : Nat} (hB : B ≤ A) (h2 : 62 ≤ bl A) (hl : l = bl A - 62) :
    1 ≤ A / 2 ^ l ∧ A / 2 ^ l < 4611686018427387904 ∧ B / 2 ^ l ≤ A / 2 ^ l ∧ A = A / 2 ^ l * 2 ^ l + A % 2 ^ l ∧ B = B / 2 ^ l * 2 ^ l + B % 2 ^ l ∧ A % 2 ^ l < 2 ^ l ∧ B % 2 ^ l < 2 ^ l := by
  have hP := Nat.two_pow_pos l
  have h0 : A ≠ 0 := fun h => by subst h; simp [bl_zero] at h2
  obtain ⟨a, b, c⟩ := bl_spec h0
  refine ⟨?_, ?_, Nat.div_le_div_right hB, by have := Nat.div_add_mod A (2 ^ l); rw [Nat.mul_comm]; omega, by have := Nat.div_add_mod B (2 ^ l); rw [Nat.mul_comm]; omega, Nat.mod_lt _ hP, Nat.mod_lt _ hP⟩
  · refine (Nat.le_div_iff_mul_le hP).2 ?_
    rw [Nat.one_mul]
    exact Nat.le_trans (Nat.pow_le_pow_right (by omega) (by omega)) a
  · refine Nat.div_lt_of_lt_mul ?_
    rw [show 4611686018427387904 = 2 ^ 62 from rfl, ← Nat.pow_add, show l + 62 = bl A by omega]
    exact b
/-- What is mixed, as whole numbers. -/
theorem mix_out {A B l : Nat} {x y a0 a1 b0 b1 : Int} (hB : B ≤ A) (h2 : 62 ≤ bl A) (hl : l = bl A - 62) (h : FoS (A / 2 ^ l : Nat) (B / 2 ^ l : Nat) x y a0 a1 b0 b1) (hn : ¬ (b0 = 0 ∧ b1 = 1)) :
    ∃ X Y : Nat, a0 * (A : Int) + a1 * (B : Int) = (X : Int) ∧ b0 * (A : Int) + b1 * (B : Int) = (Y : Int) ∧ Y < X ∧ X ≤ B ∧ Nat.gcd X Y = Nat.gcd A B := by
  obtain ⟨g1, g2, g3, e1, e2, m1, m2⟩ := heads hB h2 hl
  generalize A / 2 ^ l = P at *
  generalize B / 2 ^ l = Q at *
  generalize A % 2 ^ l = r at *
  generalize B % 2 ^ l = s at *
  generalize 2 ^ l = T at *
  have E1 : (A : Int) = (P : Int) * T + r := by rw [e1]; push_cast; rfl
  have E2 : (B : Int) = (Q : Int) * T + s := by rw [e2]; push_cast; rfl
  have hm := h.mixed (P := (T : Int)) (r := (r : Int)) (s := (s : Int)) (by omega) (by omega) (by omega) (by omega)
  have hd : ∀ P' r' s' : Int, 0 ≤ r' → r' < P' → 0 ≤ s' → s' < P' → b0 * ((P : Int) * P' + r') + b1 * ((Q : Int) * P' + s') < a0 * ((P : Int) * P' + r') + a1 * ((Q : Int) * P' + s') ∧ a0 * ((P : Int) * P' + r') + a1 * ((Q : Int) * P' + s') ≤ (Q : Int) * P' + s' := by
    rcases h.de with hh | hh
    · exact absurd ⟨hh.2.2.1, hh.2.2.2⟩ hn
    · exact hh
  have hd := hd (T : Int) (r : Int) (s : Int) (by omega) (by omega) (by omega) (by omega)
  rw [← E1, ← E2] at hm hd
  have hg := gcd_mix (a := (A : Int)) (b := (B : Int)) h.det
  obtain ⟨X, hX⟩ : ∃ X : Nat, a0 * (A : Int) + a1 * (B : Int) = (X : Int) := ⟨(a0 * (A : Int) + a1 * (B : Int)).toNat, by omega⟩
  obtain ⟨Y, hY⟩ : ∃ Y : Nat, b0 * (A : Int) + b1 * (B : Int) = (Y : Int) := ⟨(b0 * (A : Int) + b1 * (B : Int)).toNat, by omega⟩
  rw [hX, hY] at hg hd
  exact ⟨X, Y, hX, hY, by omega, by omega, hg⟩
set_option maxRecDepth 100000 in
set_option maxHeartbeats 1000000 in
theorem onward_any (A B : Nat) (ao bo : Option Addr) (cap bcap : Nat) (w : World) (hr : LS w ao cap (lo A)) (hs : LS w bo bcap (lo B)) (hB0 : 0 < B) (hBA : B ≤ A) (hn : nl A ≤ 40000) :
    Calls Tryz.prog 78 #[.slice ao (nl A) cap, .slice bo (nl B) bcap] w (GaveOn w A B) := by
  have hA := lo_length A
  have hB := lo_length B
  have nB := nlR_mono hBA
  have pB := nlR_pos (show B ≠ 0 by omega)
  by_cases h1 : A < 18446744073709551616
  · obtain ⟨q1, q2⟩ := lo_one (show A ≠ 0 by omega) h1
    obtain ⟨q3, q4⟩ := lo_one (show B ≠ 0 by omega) (show B < 18446744073709551616 by omega)
    have c1 := hr.1
    have c2 := hs.1
    rw [q2] at c1
    rw [q4] at c2
    rcases c1 with c1 | ⟨b, o, rfl, c1⟩
    · simp at c1
    rcases c2 with c2 | ⟨b', o', rfl, c2⟩
    · simp at c2
    have g1 := c1 0 (by simp)
    have g2 := c2 0 (by simp)
    simp only [List.getD_cons_zero, Nat.add_zero] at g1 g2
    rw [q1, q3]
    have cc := fun w' => comLimb_any A B h1 (by omega) w'
    have hG : 0 < Nat.gcd A B := Nat.gcd_pos_of_pos_right _ hB0
    have hG2 : Nat.gcd A B ≤ A := Nat.le_of_dvd (by omega) (Nat.gcd_dvd_left A B)
    obtain ⟨q5, q6⟩ := lo_one (show Nat.gcd A B ≠ 0 by omega) (by omega)
    have hb1 := World.block_lt_of_cell? w _ g1
    have hb2 := World.block_lt_of_cell? w _ g2
    obtain ⟨G, eG⟩ : ∃ G, Nat.gcd A B = G := ⟨_, rfl⟩
    rw [eG] at cc hG hG2 q5 q6
    have HEG : Hid _ := eG
    clear c1 c2 q1 q2 q3 q4 hA hB nB pB eG hr hs hn
    go_enter Tryz.func78, Tryz.ntmps78
    go_upto_region 2 with fail
    go_region_held3 (fun w' => w'.cell? ⟨b, o, none⟩ = some (.int .u64 A) ∧ w'.cell? ⟨b', o', none⟩ = some (.int .u64 B)) (go_keep)
      (first | (go_at_call 102; refine (cc _).mono ?_; rintro e w2 ⟨rfl, hb⟩; have k1 : w2.cell? ⟨b, o, none⟩ = some (.int .u64 A) := (hb.cell (p := ⟨b, o, none⟩) hb1).trans g1; have k2 : w2.cell? ⟨b', o', none⟩ = some (.int .u64 B) := (hb.cell (p := ⟨b', o', none⟩) hb2).trans g2))
    have hW : LS (w2.alloc (.cells #[.int .u64 ((G : Nat) : Int)] 46)) (some ⟨w2.heap.size, 0, none⟩) 1 (lo G) := by
      rw [q6]
      exact ⟨Or.inr ⟨w2.heap.size, 0, rfl, fun j hj => by
        have : j = 0 := by simp at hj; omega
        subst this
        go_simp⟩, by simp, fun e => by cases e⟩
    have hZ : ∀ W : World, LS W none 0 (lo 0) := fun W => ⟨Or.inl rfl, Nat.le_refl _, fun _ => rfl⟩
    have hbb : Below w.heap.size w (w2.alloc (.cells #[.int .u64 ((G : Nat) : Int)] 46)) := (((Below.refl w.heap.size w).drew).trans hb).alloc hb.size _
    go_wp2
    go_ret2
    refine ⟨G, 0, _, _, _, _, ?_, hW, hZ _, hB0, by omega, hG2, by rw [Nat.gcd_zero_right, HEG.out], hbb⟩
    rw [q5]
    rfl
  · have hb65 : 65 ≤ bl A := by
      refine Nat.lt_of_not_le fun hle => h1 ?_
      have := bl_le_iff.1 (show bl A ≤ 64 by omega)
      rw [p64] at this
      exact this
    have hn2 : 2 ≤ nl A := by unfold nl; omega
    obtain ⟨l, el⟩ : ∃ l, bl A - 62 = l := ⟨_, rfl⟩
    obtain ⟨g1, g2, g3, e1, e2, m1, m2⟩ := heads hBA (show 62 ≤ bl A by omega) el.symm
    have hbl : bl A ≤ 64 * nl A := by unfold nl; omega
    have cl := bitLen_any (lo A) ao cap w hr.1 (lo_lm A) (by omega)
    have cA := window_any (lo A) ao cap (l : Int) w hr.1 (lo_lm A) (by omega) (by omega)
    have cB := window_any (lo B) bo bcap (l : Int) w hs.1 (lo_lm B) (by omega) (by omega)
    rw [hA, vl_lo] at cl cA
    rw [hB, vl_lo] at cB
    have wA : win A (l : Int) = A / 2 ^ l := by unfold win shr; rw [if_pos (by omega), Int.toNat_natCast]; exact Nat.mod_eq_of_lt (by omega)
    have wB : win B (l : Int) = B / 2 ^ l := by unfold win shr; rw [if_pos (by omega), Int.toNat_natCast]; exact Nat.mod_eq_of_lt (by omega)
    rw [wA] at cA
    rw [wB] at cB
    have hmo := fun {x y a0 a1 b0 b1 : Int} => mix_out (x := x) (y := y) (a0 := a0) (a1 := a1) (b0 := b0) (b1 := b1) hBA (show 62 ≤ bl A by omega) el.symm
    have cF := foresee_any ((A / 2 ^ l : Nat) : Int) ((B / 2 ^ l : Nat) : Int) (by omega) (by omega) (by omega) (by omega) w
    obtain ⟨PA, ePA⟩ : ∃ PA, A / 2 ^ l = PA := ⟨_, rfl⟩
    obtain ⟨PB, ePB⟩ : ∃ PB, B / 2 ^ l = PB := ⟨_, rfl⟩
    rw [ePA] at cA g1 g2 g3
    rw [ePB] at cB g3
    unfold GaveF4 at cF
    simp only [ePA, ePB] at cF hmo
    have HMO : Hid _ := @hmo
    have HM2 : Hid _ := hn2
    obtain ⟨bA, ebA⟩ : ∃ bA, bl A = bA := ⟨_, rfl⟩
    rw [ebA] at cl el hb65 hbl
    have w1 : (bA : Int) - 62 = (l : Int) := by omega
    have lA : bA ≤ 2560000 := by omega
    have t1 : ((nl A : Int) == 1) = false := by simp; omega
    have v1 : IntKind.i64.wrap (PA : Int) = PA := wrapI_id (by omega) (by omega)
    have v2 : IntKind.i64.wrap (PB : Int) = PB := wrapI_id (by omega) (by omega)
    have cD := ldiv_any (lo A) (lo B) ao bo cap bcap
    rw [hA, hB, vl_lo, vl_lo] at cD
    have cM := mixed_any (lo A) (lo B) ao bo cap bcap
    rw [hA, hB, vl_lo, vl_lo] at cM
    clear hmo wA wB m1 m2 e1 e2 ePA ePB ebA el
    go_enter Tryz.func78, Tryz.ntmps78
    go_upto_region 5 with (first | (go_at_call 37; refine cl.mono ?_; rintro e w' ⟨rfl, hww⟩; subst w') | (go_at_call_of 80 (Value.slice ao (nl A) cap); refine cA.mono ?_; rintro e w' ⟨rfl, hww⟩; subst w') | (go_at_call_of 80 (Value.slice bo (nl B) bcap); refine cB.mono ?_; rintro e w' ⟨rfl, hww⟩; subst w') | (go_at_call 103; refine cF.mono ?_; rintro e w2 ⟨x, y, a0, a1, b0, b1, rfl, hF, hb2⟩))
    have M0 : B4 (w2.alloc (.cells #[.int .i64 a0, .int .i64 a1, .int .i64 b0, .int .i64 b1] 102)) w2.heap.size (.int .i64 a0) (.int .i64 a1) (.int .i64 b0) (.int .i64 b1) := ⟨by go_simp, by go_simp, by go_simp, by go_simp, by go_simp, by go_simp, by go_simp, by go_simp⟩
    have hb3 : Below w.heap.size w (w2.alloc (.cells #[.int .i64 a0, .int .i64 a1, .int .i64 b0, .int .i64 b1] 102)) := hb2.alloc hb2.size _
    have hgs : w2.heap.size < (w2.alloc (.cells #[.int .i64 a0, .int .i64 a1, .int .i64 b0, .int .i64 b1] 102)).heap.size := by simp
    have hgl : w.heap.size ≤ w2.heap.size := hb2.size
    generalize w2.alloc (.cells #[.int .i64 a0, .int .i64 a1, .int .i64 b0, .int .i64 b1] 102) = W3 at *
    generalize w2.heap.size = g at *
    obtain ⟨c0, c1, c2, c3, _, _, _, _⟩ := id M0
    have heq := eqin_two b0 b1 0 1
    have hgd := guard_two
    have lB : ∀ z, z ≤ A → nl z ≤ 40000 := fun z hz => Nat.le_trans (nlR_mono hz) hn
    by_cases hc : b0 = 0 ∧ b1 = 1
    · obtain ⟨rfl, rfl⟩ := hc
      have cd := cD W3 (hr.1.below hb3) (hs.below hb3) (lo_lm A) (lo_lm B) (by omega) (by omega) (by omega)
      have hml : A % B < B := Nat.mod_lt _ hB0
      have hgc : Nat.gcd B (A % B) = Nat.gcd A B := by rw [Nat.gcd_comm, ← Nat.gcd_rec, Nat.gcd_comm]
      have HGC : Hid _ := hgc
      obtain ⟨r, er⟩ : ∃ r, A % B = r := ⟨_, rfl⟩
      rw [er] at cd hml HGC
      generalize A / B = q at cd
      clear cD cM cl cA cB cF HMO hF hgc er
      go_wp2_with (go_at_call 39; refine cd.mono ?_; rintro e w4 ⟨qo, qc, ro, rc, rfl, hq, hR, hb4⟩)
      go_ret2
      exact ⟨B, r, bo, ro, bcap, rc, rfl, (hs.below hb3).below hb4, hR, hml, by omega, hBA, HGC.out, hb3.trans (hb4.mono hb3.size)⟩
    · obtain ⟨X, Y, hX, hY, h3, h4, h5⟩ := HMO.out hF hc
      have t2 : (b0 == 0 && b1 == 1) = false := by
        simp only [Bool.and_eq_false_iff, beq_eq_false_iff_ne]
        by_cases hz : b0 = 0
        · exact Or.inr fun hh => hc ⟨hz, hh⟩
        · exact Or.inl hz
      have sg := hF.sg
      have ba := hF.ba
      have bb := hF.bb
      have m1 := fun w' (h : Below W3.heap.size W3 w') => cM a0 a1 w' ((hr.1.below hb3).below h) ((hs.1.below hb3).below h) (lo_lm A) (lo_lm B) (by omega) (by omega) (by omega) (by omega) (by omega) (by omega) (by omega) X hX (by omega)
      have m2 := fun w' (h : Below W3.heap.size W3 w') => cM b0 b1 w' ((hr.1.below hb3).below h) ((hs.1.below hb3).below h) (lo_lm A) (lo_lm B) (by omega) (by omega) (by omega) (by omega) (by omega) (by omega) (by omega) Y hY (by omega)
      have HX : Hid _ := hX
      have HY : Hid _ := hY
      have H5 : Hid _ := h5
      clear cD cM cl cA cB cF HMO hF hX hY h5 sg ba bb
      have HC : ∀ w', Below W3.heap.size W3 w' → w'.cell? ⟨g, 0, none⟩ = some (.int .i64 a0) ∧ w'.cell? ⟨g, 1, none⟩ = some (.int .i64 a1) ∧ w'.cell? ⟨g, 2, none⟩ = some (.int .i64 b0) ∧ w'.cell? ⟨g, 3, none⟩ = some (.int .i64 b1) := fun w' h => ⟨(h.cell (p := ⟨g, 0, none⟩) hgs).trans c0, (h.cell (p := ⟨g, 1, none⟩) hgs).trans c1, (h.cell (p := ⟨g, 2, none⟩) hgs).trans c2, (h.cell (p := ⟨g, 3, none⟩) hgs).trans c3⟩
      have m1d := m1 W3.drew ((Below.refl _ _).drew)
      go_upto_region 8 with fail
      go_region_held3 (fun w' => w'.cell? ⟨g, 0, none⟩ = some (.int .i64 a0) ∧ w'.cell? ⟨g, 1, none⟩ = some (.int .i64 a1) ∧ w'.cell? ⟨g, 2, none⟩ = some (.int .i64 b0) ∧ w'.cell? ⟨g, 3, none⟩ = some (.int .i64 b1)) (go_keep)
        (first
          | (go_at_call 104; refine (m2 _ b4).mono ?_; rintro e w5 ⟨yo, yc, rfl, hYl, hb5⟩; have b6 := b4.trans (hb5.mono b4.size); have k5 := HC _ b6)
          | (go_at_call 104; refine m1d.mono ?_; rintro e w4 ⟨xo, xc, rfl, hXl, hb4⟩; have b4 : Below W3.heap.size W3 w4 := ((Below.refl W3.heap.size W3).drew).trans hb4; have k4 := HC _ b4))
      have hb7 := hb3.trans (b6.mono hb3.size)
      have hXl2 := hXl.below hb5
      clear k5 b6 hb5 hXl
      go_wp2
      go_ret2
      exact ⟨X, Y, xo, yo, xc, yc, rfl, hXl2, hYl, by omega, by omega, by omega, H5.out, hb7⟩
end Go.Proofs.YtnclddfljghebaaGreatDoor

namespace Go.Proofs.YtnclddfljghebaaGreatDoor
open Go.RowKit

/-- What Common tells, given the least number of bits that is asked for. -/
def comA (a b : Nat) (least : Int) : Nat := if least ≤ (bl (Nat.gcd a b) : Int) then Nat.gcd a b else 0
theorem odd_cop {a k : Nat} (h : a % 2 = 1) : Nat.Coprime (2 ^ k) a := by
  refine Nat.Coprime.pow_left k ?_
  unfold Nat.Coprime
  rw [Nat.gcd_rec, h]
  rfl
theorem gcd_twos {A B : Nat} (hA : A ≠ 0) (hB : B ≠ 0) : Nat.gcd A B = Nat.gcd (A / 2 ^ tz A) (B / 2 ^ tz B) * 2 ^ min (tz A) (tz B) := by
  obtain ⟨a1, a2⟩ := tz_div hA
  obtain ⟨b1, b2⟩ := tz_div hB
  generalize A / 2 ^ tz A = a at *
  generalize B / 2 ^ tz B = b at *
  generalize tz A = i at *
  generalize tz B = j at *
  rw [a2, b2]
  rcases Nat.le_total i j with h | h
  · obtain ⟨k, rfl⟩ : ∃ k, j = i + k := ⟨j - i, by omega⟩
    rw [Nat.min_eq_left h, Nat.pow_add, Nat.mul_comm (2 ^ i) (2 ^ k), ← Nat.mul_assoc, Nat.gcd_mul_right, Nat.Coprime.gcd_mul_right_cancel_right _ (odd_cop a1)]
  · obtain ⟨k, rfl⟩ : ∃ k, i = j + k := ⟨i - j, by omega⟩
    rw [Nat.min_eq_right h, Nat.pow_add, Nat.mul_comm (2 ^ j) (2 ^ k), ← Nat.mul_assoc, Nat.gcd_mul_right, Nat.Coprime.gcd_mul_right_cancel _ (odd_cop b1)]
set_option maxRecDepth 100000 in
set_option maxHeartbeats 1000000 in
theorem common_any (xs ys : List Nat) (ao bo : Option Addr) (cap bcap : Nat) (least : Int) (w : World) (hr : LRow w ao xs) (hs : LRow w bo ys) (hL : Lm xs) (hM : Lm ys) (n1 : xs.length ≤ 15000) (n2 : ys.length ≤ 15000) (hA : vl xs ≠ 0) (hB : vl ys ≠ 0) (hT : TabW w) :
    Calls Tryz.prog 38 #[.slice ao xs.length cap, .slice bo ys.length bcap, .int .i64 least] w (GaveLW w (comA (vl xs) (vl ys) least)) := by
  have z1 := trailing_any xs ao cap w hr hL hT (by omega)
  have z2 := trailing_any ys bo bcap w hs hM hT (by omega)
  have tA := tz_lt_bl hA
  have tB := tz_lt_bl hB
  have lA : bl (vl xs) ≤ 64 * xs.length := bl_le_iff.2 (vl_lt hL)
  have lB : bl (vl ys) ≤ 64 * ys.length := bl_le_iff.2 (vl_lt hM)
  have hG := gcd_twos hA hB
  obtain ⟨oA, eA⟩ := tz_div hA
  obtain ⟨oB, eB⟩ := tz_div hB
  have s1 := lshr_any xs ao cap (tz (vl xs)) w hr hL (by omega) (by omega)
  have hdA : vl xs / 2 ^ tz (vl xs) ≤ vl xs := Nat.div_le_self _ _
  have hdB : vl ys / 2 ^ tz (vl ys) ≤ vl ys := Nat.div_le_self _ _
  have s2 := fun w' (h : Below w.heap.size w w') => lshr_any ys bo bcap (tz (vl ys)) w' (hs.below h) hM (by omega) (by omega)
  obtain ⟨A, eAA⟩ : ∃ A, vl xs / 2 ^ tz (vl xs) = A := ⟨_, rfl⟩
  obtain ⟨B, eBB⟩ : ∃ B, vl ys / 2 ^ tz (vl ys) = B := ⟨_, rfl⟩
  rw [eAA] at s1 hG oA hdA
  simp only [eBB] at s2
  rw [eBB] at hG oB hdB
  have kA : nl A ≤ 40000 := by have := nlR_mono hdA; have := nlW_le hL; omega
  have kB : nl B ≤ 40000 := by have := nlR_mono hdB; have := nlW_le hM; omega
  obtain ⟨i, ei⟩ : ∃ i, tz (vl xs) = i := ⟨_, rfl⟩
  obtain ⟨j, ej⟩ : ∃ j, tz (vl ys) = j := ⟨_, rfl⟩
  rw [ei] at z1 s1 tA hG
  rw [ej] at z2 tB hG
  simp only [ej] at s2
  have HG : Hid _ := hG
  obtain ⟨t, et⟩ : ∃ t, min i j = t := ⟨_, rfl⟩
  rw [et] at HG
  have i1 : i ≤ 960000 := by omega
  have j1 : j ≤ 960000 := by omega
  have hmn : (if j < i then (j : Int) else (i : Int)) = (t : Int) := by split <;> omega
  have t1 : t ≤ 960000 := by omega
  obtain ⟨R, eR⟩ : ∃ R, comA (vl xs) (vl ys) least = R := ⟨_, rfl⟩
  have HR : Hid (R = if least ≤ ((bl (Nat.gcd A B) + t : Nat) : Int) then Nat.gcd A B * 2 ^ t else 0) := (show _ = _ by
    have g0 : Nat.gcd A B ≠ 0 := Nat.ne_of_gt (Nat.gcd_pos_of_pos_left _ (by omega))
    rw [← eR]; unfold comA; rw [HG.out, bl_mul_pow g0])
  rw [eR]
  have pA : 0 < A := by omega
  have pB : 0 < B := by omega
  clear eR et eAA eBB ei ej eA eB hG hdA hdB lA lB tA tB hT
  go_enter Tryz.func38, Tryz.ntmps38
  go_upto_region 4 with (first | (go_at_call_of 77 (Value.slice ao xs.length cap); refine z1.mono ?_; rintro e w' ⟨rfl, hww⟩; subst w') | (go_at_call_of 77 (Value.slice bo ys.length bcap); refine z2.mono ?_; rintro e w' ⟨rfl, hww⟩; subst w') | (go_at_call_of 55 (Value.slice ao xs.length cap); refine s1.mono ?_; rintro e w1 ⟨ao1, cap1, rfl, hA1, hb1⟩) | (go_at_call_of 55 (Value.slice bo ys.length bcap); refine (s2 _ hb1).mono ?_; rintro e w2 ⟨bo1, bcap1, rfl, hB1, hb2⟩))
  have cC := lcmp_any (lo A) (lo B) ao1 bo1 cap1 bcap1 w2 (hA1.below hb2).1 hB1.1 (lo_lm A) (lo_lm B) (by rw [lo_length]; omega) (by rw [lo_length]; omega)
  rw [vl_lo, vl_lo, lo_length, lo_length] at cC
  have hA2 := hA1.below hb2
  have hb3 := hb1.trans (hb2.mono hb1.size)
  clear z1 z2 s1 s2 hA1 hb1 hb2 hmn
  obtain ⟨c, ec⟩ : ∃ c, cmpI (A : Int) (B : Int) = c := ⟨_, rfl⟩
  rw [ec] at cC
  have hlt : A < B → c = -1 := fun h => by rw [← ec]; exact cmpI_nat_lt h
  have hge : B ≤ A → 0 ≤ c := fun h => by
    rw [← ec]
    rcases Nat.lt_or_eq_of_le h with h | h
    · rw [cmpI_nat_gt h]; decide
    · rw [cmpI_eq (by rw [h])]; decide
  have HLT : Hid _ := hlt
  have HGE : Hid _ := hge
  clear hlt hge ec
  go_upto_if 28 with (go_at_call 68; refine cC.mono ?_; rintro e w' ⟨rfl, hww⟩; subst w')
  clear cC
  go_cut [0, 1] from 10 (fun s0 s1 wx => ∃ (a b : Nat) (ao bo : Option Addr) (cap bcap : Nat), s0 = .slice ao (nl a) cap ∧ s1 = .slice bo (nl b) bcap ∧ LS wx ao cap (lo a) ∧ LS wx bo bcap (lo b) ∧ b ≤ a ∧ 0 < b ∧ nl a ≤ 40000 ∧ Hid (Nat.gcd a b = Nat.gcd A B) ∧ wx = w2)
  case first =>
    by_cases h : A < B
    · have q := HLT.out h
      subst q
      go_wp2
      go_meet
      exact ⟨B, A, _, _, _, _, rfl, rfl, hB1, hA2, by omega, pA, kB, Nat.gcd_comm B A, rfl⟩
    · have q : ¬ c < 0 := by have := HGE.out (by omega); omega
      go_wp2
      go_meet
      exact ⟨A, B, _, _, _, _, rfl, rfl, hA2, hB1, by omega, pB, kA, rfl, rfl⟩
  obtain ⟨a, b, ao2, bo2, cap2, bcap2, rfl, rfl, hl1, hl2, hba, hb0, hna, hgc, h'⟩ := hcut
  subst wc
  clear hA2 hB1 HLT HGE
  obtain ⟨G, eG⟩ : ∃ G, Nat.gcd A B = G := ⟨_, rfl⟩
  rw [eG] at HR hgc
  clear eG pA pB kA kB
  go_wp2
  go_loopg [0, 1] b (fun gg s0 s1 wr => ∃ (a b : Nat) (ao bo : Option Addr) (cap bcap : Nat), gg = b ∧ s0 = .slice ao (nl a) cap ∧ s1 = .slice bo (nl b) bcap ∧ LS wr ao cap (lo a) ∧ LS wr bo bcap (lo b) ∧ b ≤ a ∧ nl a ≤ 40000 ∧ Hid (Nat.gcd a b = G ∧ 0 < a) ∧ Below w.heap.size w wr)
  case atStart => exact ⟨a, b, _, _, _, _, rfl, rfl, rfl, hl1, hl2, hba, hna, ⟨hgc, by omega⟩, hb3⟩
  case round =>
    clear hl1 hl2 hba hb0 hna hgc hb3
    obtain ⟨a, b, ao3, bo3, cap3, bcap3, hg, rfl, rfl, hl1, hl2, hba, hna, hgc, hbw⟩ := hrel
    have HGG : Hid _ := hg
    clear hg
    by_cases h0 : b = 0
    · subst h0
      have eGa := hgc.out.1
      rw [Nat.gcd_zero_right] at eGa
      have pa := hgc.out.2
      have HR2 : Hid (R = if least ≤ ((bl a + t : Nat) : Int) then a * 2 ^ t else 0) := (show _ = _ by rw [eGa]; exact HR.out)
      have n0 : nl 0 = 0 := rfl
      have cl := bitLen_any (lo a) ao3 cap3 wr hl1.1 (lo_lm a) (by rw [lo_length]; omega)
      have cs := lshift_any (lo a) ao3 cap3 (t : Int) wr hl1.1 (lo_lm a) (by rw [lo_length]; omega) (by omega) (by omega)
      rw [lo_length, vl_lo] at cl cs
      rw [Int.toNat_natCast] at cs
      have hbl : bl a ≤ 64 * nl a := by unfold nl; omega
      clear HR hgc eGa
      by_cases hle : least ≤ ((bl a + t : Nat) : Int)
      · have hR2 := HR2.out
        rw [if_pos hle] at hR2
        have HR3 : Hid _ := hR2
        rw [← hR2] at cs
        have q1 : ¬ ((bl a : Int) + (t : Int) < least) := by omega
        clear HR2 hR2 hle
        go_wp2_with (first | (go_at_call 37; refine cl.mono ?_; rintro e w' ⟨rfl, hww⟩; subst w') | (go_at_call 55; refine cs.mono ?_; rintro e w4 ⟨ro, rc, rfl, hR, hb4⟩))
        go_ret
        exact ⟨_, _, rfl, hR, hbw.trans (hb4.mono hbw.size)⟩
      · have hR2 := HR2.out
        rw [if_neg hle] at hR2
        have q1 : (bl a : Int) + (t : Int) < least := by omega
        subst hR2
        clear HR2 cs hle
        go_wp2_with (first | (go_at_call 37; refine cl.mono ?_; rintro e w' ⟨rfl, hww⟩; subst w'))
        go_ret
        exact ⟨none, 0, rfl, ⟨Or.inl rfl, Nat.le_refl _, fun _ => rfl⟩, hbw⟩
    · have nb : 0 < nl b := nlR_pos h0
      have q0 : (0 : Int) < (nl b : Int) := by omega
      have nB := nlR_mono hba
      have cl := bitLen_any (lo b) bo3 bcap3 wr hl2.1 (lo_lm b) (by rw [lo_length]; omega)
      rw [lo_length, vl_lo] at cl
      have hbl : bl b ≤ 64 * nl b := by unfold nl; omega
      by_cases hle : least ≤ (bl b : Int) + (t : Int)
      · have co := onward_any a b ao3 bo3 cap3 bcap3 wr hl1 hl2 (by omega) hba hna
        clear HR
        go_wp2_with (first | (go_at_call 37; refine cl.mono ?_; rintro e w' ⟨rfl, hww⟩; subst w') | (go_at_call 78; refine co.mono ?_; rintro e w4 ⟨a', b', ao4, bo4, cap4, bcap4, rfl, k1, k2, k3, k4, k5, k6, hb4⟩))
        have hgN : Nat.gcd a' b' = G := by rw [k6]; exact hgc.out.1
        have pN : 0 < a' := by
          have : 0 < Nat.gcd a' b' := by rw [hgN, ← hgc.out.1]; exact Nat.gcd_pos_of_pos_left _ hgc.out.2
          rcases Nat.eq_zero_or_pos a' with hz | hz
          · have hz2 : b' = 0 := by omega
            subst hz
            subst hz2
            simp at this
          · exact hz
        have HN : Hid (Nat.gcd a' b' = G ∧ 0 < a') := ⟨hgN, pN⟩
        have nN := nlR_mono k5
        clear hgN pN k6 cl co hgc
        go_roundg b'
        case measure => rw [HGG.out]; exact k3
        case rel => exact ⟨a', b', _, _, _, _, rfl, rfl, rfl, k1, k2, k4, by omega, HN, hbw.trans (hb4.mono hbw.size)⟩
      · have hGb : bl G ≤ bl b := by
          rw [← hgc.out.1]
          exact blW_mono (Nat.le_of_dvd (by omega) (Nat.gcd_dvd_right a b))
        have hR2 := HR.out
        rw [if_neg (by omega)] at hR2
        subst hR2
        clear hgc HR
        go_wp2_with (first | (go_at_call 37; refine cl.mono ?_; rintro e w' ⟨rfl, hww⟩; subst w'))
        go_ret
        exact ⟨none, 0, rfl, ⟨Or.inl rfl, Nat.le_refl _, fun _ => rfl⟩, hbw⟩
end Go.Proofs.YtnclddfljghebaaGreatDoor
