/- What commonLimb, foresee and mixed answer. -/
import Derived.Test.YtmcnnnmlacpppaaDoorRt0
import Derived.Test.YtmcnnnmlacpppaaDoorRt6
namespace Go.Proofs.YtmcnnnmlacpppaaDoor
open Go.RowKit

set_option maxHeartbeats 400000 in
theorem comLimb_any (a b : Nat) (ha : a < 18446744073709551616) (hb : b < 18446744073709551616) (w : World) :
    Calls Tryd.prog 80 #[.int .u64 a, .int .u64 b] w fun e w' => e = .returned (.int .u64 (Nat.gcd a b : Nat)) ∧ Below w.heap.size w w' := by
  go_enter Tryd.func80, Tryd.ntmps80
  go_wp2
  obtain ⟨G, eG⟩ : ∃ G, Nat.gcd a b = G := ⟨_, rfl⟩
  go_loopg [0, 1] b (fun gg s0 s1 wr => ∃ a' b' : Nat, gg = b' ∧ s0 = .int .u64 a' ∧ s1 = .int .u64 b' ∧ a' < 18446744073709551616 ∧ b' < 18446744073709551616 ∧ Hid (Nat.gcd a' b' = G) ∧ Below w.heap.size w wr)
  case atStart => exact ⟨a, b, rfl, rfl, rfl, ha, hb, eG, Below.refl _ _⟩
  case round =>
    obtain ⟨a', b', hg, rfl, rfl, h1, h2, hG, hw⟩ := hrel
    have HG : Hid _ := hg
    have HE : Hid _ := eG
    clear hg eG ha hb
    by_cases h0 : b' = 0
    · subst h0
      have hz := hG.out
      rw [Nat.gcd_zero_right] at hz
      have HZ : Hid (a' = Nat.gcd a b) := (show _ = _ by rw [hz, HE.out])
      clear hz hG
      go_wp2
      go_ret
      exact ⟨congrArg (fun z : Nat => Ending.returned (.int .u64 (z : Int))) HZ.out, hw⟩
    · have t1 : ((b' : Int) == 0) = false := by simp; omega
      have t2 : ((b' : Int) != 0) = true := by simp; omega
      have t3 : (b' : Int) ≠ 0 := by omega
      have hm : a' % b' < b' := Nat.mod_lt _ (by omega)
      have e1 : (a' : Int) % (b' : Int) = ((a' % b' : Nat) : Int) := by rw [Int.natCast_emod]
      have e2 : (a' : Int).tmod (b' : Int) = ((a' % b' : Nat) : Int) := by rw [Int.tmod_eq_emod_of_nonneg (by omega), e1]
      have HN : Hid (Nat.gcd b' (a' % b') = G) := (show _ = _ by rw [Nat.gcd_comm, ← Nat.gcd_rec, Nat.gcd_comm]; exact hG.out)
      obtain ⟨r, er⟩ : ∃ r, a' % b' = r := ⟨_, rfl⟩
      rw [er] at hm e1 e2 HN
      clear er hG
      go_upto_region 2 with fail
      go_quiet (fail)
      go_wp2
      go_roundg r
      case measure => rw [HG.out]; omega
      case rel => exact ⟨b', r, rfl, rfl, by first | rfl | (congr 1), h2, by omega, HN, hw.trans ((Alike.drewN _).below _)⟩
theorem wrapI_id {z : Int} (h0 : -9223372036854775808 ≤ z) (h : z < 9223372036854775808) : IntKind.i64.wrap z = z := by rw [IntKind.wrap_i64]; omega
/-- A box of four cells. -/
structure B4 (w : World) (b : Nat) (x y z u : Value) : Prop where
  c0 : w.cell? ⟨b, 0, none⟩ = some x
  c1 : w.cell? ⟨b, 1, none⟩ = some y
  c2 : w.cell? ⟨b, 2, none⟩ = some z
  c3 : w.cell? ⟨b, 3, none⟩ = some u
  f0 : w.frozen? ⟨b, 0, none⟩ = false
  f1 : w.frozen? ⟨b, 1, none⟩ = false
  f2 : w.frozen? ⟨b, 2, none⟩ = false
  f3 : w.frozen? ⟨b, 3, none⟩ = false
theorem B4.fill {w : World} {g : Nat} {x y z u : Value} (h : B4 w g x y z u) (a b c d : Value) : B4 ((((w.setCell ⟨g, 0, none⟩ a).setCell ⟨g, 1, none⟩ b).setCell ⟨g, 2, none⟩ c).setCell ⟨g, 3, none⟩ d) g a b c d := by
  obtain ⟨c0, c1, c2, c3, f0, f1, f2, f3⟩ := h
  exact ⟨by go_simp, by go_simp, by go_simp, by go_simp, by go_simp, by go_simp, by go_simp, by go_simp⟩
theorem B4.other {w : World} {b g : Nat} {x y z u : Value} (h : B4 w b x y z u) (hn : b ≠ g) (a1 b1 c1 d1 : Value) : B4 ((((w.setCell ⟨g, 0, none⟩ a1).setCell ⟨g, 1, none⟩ b1).setCell ⟨g, 2, none⟩ c1).setCell ⟨g, 3, none⟩ d1) b x y z u := by
  obtain ⟨c0, c1, c2, c3, f0, f1, f2, f3⟩ := h
  exact ⟨by simp [go_sem, c0], by simp [go_sem, c1], by simp [go_sem, c2], by simp [go_sem, c3], by simp [go_sem, f0], by simp [go_sem, f1], by simp [go_sem, f2], by simp [go_sem, f3]⟩
theorem Below.four {B : Nat} {w w' : World} (h : Go.RowKit.Below B w w') {g : Nat} (hg : B ≤ g) (a b c d : Value) : Go.RowKit.Below B w ((((w'.setCell ⟨g, 0, none⟩ a).setCell ⟨g, 1, none⟩ b).setCell ⟨g, 2, none⟩ c).setCell ⟨g, 3, none⟩ d) :=
  (((h.setCell (p := ⟨g, 0, none⟩) hg _).setCell (p := ⟨g, 1, none⟩) hg _).setCell (p := ⟨g, 2, none⟩) hg _).setCell (p := ⟨g, 3, none⟩) hg _
def GaveF4 (w : World) (A B : Int) (e : Ending) (w' : World) : Prop := ∃ x y a0 a1 b0 b1 : Int, e = .returned (.agg #[.int .i64 a0, .int .i64 a1, .int .i64 b0, .int .i64 b1]) ∧ FoS A B x y a0 a1 b0 b1 ∧ Below w.heap.size w w'
set_option maxRecDepth 100000 in
set_option maxHeartbeats 1000000 in
theorem foresee_any (A B : Int) (hA : 1 ≤ A) (hA2 : A < 4611686018427387904) (hB : 0 ≤ B) (hBA : B ≤ A) (w : World) :
    Calls Tryd.prog 81 #[.int .i64 A, .int .i64 B] w (GaveF4 w A B) := by
  have S0 : Hid (FoS A B A B 1 0 0 1) := FoS.start hA hB hBA
  go_enter Tryd.func81, Tryd.ntmps81
  have R0 : B4 ((w.alloc (.cells #[.int .i64 0, .int .i64 0, .int .i64 0, .int .i64 0] 98)).alloc (.cells #[.int .i64 1, .int .i64 0, .int .i64 0, .int .i64 1] 98)) w.heap.size (.int .i64 0) (.int .i64 0) (.int .i64 0) (.int .i64 0) := ⟨by go_simp, by go_simp, by go_simp, by go_simp, by go_simp, by go_simp, by go_simp, by go_simp⟩
  have M0 : B4 ((w.alloc (.cells #[.int .i64 0, .int .i64 0, .int .i64 0, .int .i64 0] 98)).alloc (.cells #[.int .i64 1, .int .i64 0, .int .i64 0, .int .i64 1] 98)) (w.heap.size + 1) (.int .i64 1) (.int .i64 0) (.int .i64 0) (.int .i64 1) := ⟨by go_simp, by go_simp, by go_simp, by go_simp, by go_simp, by go_simp, by go_simp, by go_simp⟩
  have B0 : Below w.heap.size w ((w.alloc (.cells #[.int .i64 0, .int .i64 0, .int .i64 0, .int .i64 0] 98)).alloc (.cells #[.int .i64 1, .int .i64 0, .int .i64 0, .int .i64 1] 98)) := ((Below.refl _ _).alloc (Nat.le_refl _) _).alloc (by simp) _
  go_upto_region 2 with fail
  generalize (w.alloc (.cells #[.int .i64 0, .int .i64 0, .int .i64 0, .int .i64 0] 98)).alloc (.cells #[.int .i64 1, .int .i64 0, .int .i64 0, .int .i64 1] 98) = W0 at *
  go_loopg [0, 1, 6] B.toNat (fun gg s0 s1 s6 wr => ∃ x y a0 a1 b0 b1 : Int, gg = y.toNat ∧ s0 = .int .i64 x ∧ s1 = .int .i64 y ∧ Hid (FoS A B x y a0 a1 b0 b1) ∧ B4 wr w.heap.size (.int .i64 0) (.int .i64 0) (.int .i64 0) (.int .i64 0) ∧ B4 wr (w.heap.size + 1) (.int .i64 a0) (.int .i64 a1) (.int .i64 b0) (.int .i64 b1) ∧ Below w.heap.size w wr)
  case atStart => exact ⟨A, B, 1, 0, 0, 1, rfl, rfl, rfl, S0, R0, M0, B0⟩
  case round =>
    clear S0 R0 M0 B0
    obtain ⟨x, y, a0, a1, b0, b1, hg, rfl, rfl, hS, R0, M0, B0⟩ := hrel
    have HG : Hid _ := hg
    clear hg
    have ba := hS.out.ba
    have bb := hS.out.bb
    have lx := hS.out.lx
    have ly := hS.out.ly
    have xa := hS.out.xa
    have yb := hS.out.yb
    have ps := hS.out.pos
    obtain ⟨r0, r1, r2, r3, p0, p1, p2, p3⟩ := id R0
    obtain ⟨m0, m1, m2, m3, n0, n1, n2, n3⟩ := id M0
    by_cases h0 : y + b0 = 0
    · go_wp2
      exact bodyPost_ret (v := .agg #[.int .i64 a0, .int .i64 a1, .int .i64 b0, .int .i64 b1]) (by simp [results, Tryd.results81, go_sem, r0, r1, r2, r3]) rfl ⟨x, y, a0, a1, b0, b1, rfl, hS.out, Below.four B0 (Nat.le_refl _) _ _ _ _⟩
    · by_cases h1 : y + b1 = 0
      · have t0 : ((y + b0) != 0) = true := by simp; exact h0
        go_wp2
        exact bodyPost_ret (v := .agg #[.int .i64 a0, .int .i64 a1, .int .i64 b0, .int .i64 b1]) (by simp [results, Tryd.results81, go_sem, r0, r1, r2, r3]) rfl ⟨x, y, a0, a1, b0, b1, rfl, hS.out, Below.four B0 (Nat.le_refl _) _ _ _ _⟩
      · have t0 : ((y + b0) != 0) = true := by simp; exact h0
        have t1 : ((y + b1) != 0) = true := by simp; exact h1
        have d0 : (x + a0).tdiv (y + b0) = (x + a0) / (y + b0) := Int.tdiv_eq_ediv_of_nonneg xa.1
        have d1 : (x + a1).tdiv (y + b1) = (x + a1) / (y + b1) := Int.tdiv_eq_ediv_of_nonneg xa.2
        have k0 : 0 ≤ (x + a0) / (y + b0) := Int.ediv_nonneg xa.1 yb.1
        have k1 : (x + a0) / (y + b0) ≤ x + a0 := Int.ediv_le_self _ xa.1
        have k2 : 0 ≤ (x + a1) / (y + b1) := Int.ediv_nonneg xa.2 yb.2
        have k3 : (x + a1) / (y + b1) ≤ x + a1 := Int.ediv_le_self _ xa.2
        have hst := fun (h : (x + a0) / (y + b0) = (x + a1) / (y + b1)) => hS.out.step (q := (x + a0) / (y + b0)) hB hBA h0 h1 rfl h
        obtain ⟨q, eq⟩ : ∃ q, (x + a0) / (y + b0) = q := ⟨_, rfl⟩
        obtain ⟨q', eq'⟩ : ∃ q', (x + a1) / (y + b1) = q' := ⟨_, rfl⟩
        rw [eq] at d0 k0 k1 hst
        rw [eq'] at d1 k2 k3 hst
        have v0 : IntKind.i64.wrap q = q := wrapI_id (by omega) (by omega)
        have v1 : IntKind.i64.wrap q' = q' := wrapI_id (by omega) (by omega)
        have u0 : IntKind.i64.wrap (x + a0) = x + a0 := wrapI_id (by omega) (by omega)
        have u1 : IntKind.i64.wrap (x + a1) = x + a1 := wrapI_id (by omega) (by omega)
        have u2 : IntKind.i64.wrap (y + b0) = y + b0 := wrapI_id (by omega) (by omega)
        have u3 : IntKind.i64.wrap (y + b1) = y + b1 := wrapI_id (by omega) (by omega)
        by_cases hq : q = q'
        · obtain ⟨hN, _, _, hlt⟩ := hst hq
          subst hq
          have nb := hN.bb
          have ns := hN.pos
          have e1 : ∃ z, q * b0 = z := ⟨_, rfl⟩
          have e2 : ∃ z, q * b1 = z := ⟨_, rfl⟩
          have e3 : ∃ z, q * y = z := ⟨_, rfl⟩
          have o0 : IntKind.i64.wrap (q * b0) = q * b0 := wrapI_id (by omega) (by omega)
          have o1 : IntKind.i64.wrap (q * b1) = q * b1 := wrapI_id (by omega) (by omega)
          have o2 : IntKind.i64.wrap (q * y) = q * y := wrapI_id (by omega) (by omega)
          have o3 : IntKind.i64.wrap (a0 - q * b0) = a0 - q * b0 := wrapI_id (by omega) (by omega)
          have o4 : IntKind.i64.wrap (a1 - q * b1) = a1 - q * b1 := wrapI_id (by omega) (by omega)
          have o5 : IntKind.i64.wrap (x - q * y) = x - q * y := wrapI_id (by omega) (by omega)
          have HN : Hid _ := hN
          have HLT : Hid _ := hlt
          have HNS : Hid _ := ns
          clear hN hst eq eq' e1 e2 e3 hlt ns nb
          have RN := R0.other (g := w.heap.size + 1) (by omega) (.int .i64 b0) (.int .i64 b1) (.int .i64 (a0 - q * b0)) (.int .i64 (a1 - q * b1))
          have MN := M0.fill (.int .i64 b0) (.int .i64 b1) (.int .i64 (a0 - q * b0)) (.int .i64 (a1 - q * b1))
          have BN := Below.four B0 (g := w.heap.size + 1) (by omega) (.int .i64 b0) (.int .i64 b1) (.int .i64 (a0 - q * b0)) (.int .i64 (a1 - q * b1))
          clear R0 M0 B0
          go_wp2
          go_roundg (x - q * y).toNat
          case measure => rw [HG.out]; have := HLT.out; have := HNS.out; omega
          case rel => exact ⟨y, x - q * y, b0, b1, a0 - q * b0, a1 - q * b1, rfl, rfl, rfl, HN.out, RN, MN, BN⟩
        · have t2 : (q != q') = true := by simpa using hq
          have t3 : (q == q') = false := by simpa using hq
          clear hst eq eq'
          go_wp2
          exact bodyPost_ret (v := .agg #[.int .i64 a0, .int .i64 a1, .int .i64 b0, .int .i64 b1]) (by simp [results, Tryd.results81, go_sem, r0, r1, r2, r3]) rfl ⟨x, y, a0, a1, b0, b1, rfl, hS.out, Below.four B0 (Nat.le_refl _) _ _ _ _⟩
end Go.Proofs.YtmcnnnmlacpppaaDoor
