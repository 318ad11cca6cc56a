/- Ratios: mul. (Written by mkrtg.py.) -/
import Derived.Test.YtmcnnnmlacpppaaDoorRtf
namespace Go.Proofs.YtmcnnnmlacpppaaDoor
open Go.RowKit

theorem nl_mul {a b : Nat} (ha : nl a ≤ 300) (hb : nl b ≤ 300) : nl (a * b) ≤ 600 := by
  have h1 : a < 2 ^ bl a := bl_le_iff.1 (Nat.le_refl _)
  have h2 : b < 2 ^ bl b := bl_le_iff.1 (Nat.le_refl _)
  have h3 : a * b < 2 ^ (bl a + bl b) := by rw [Nat.pow_add]; exact Nat.mul_lt_mul'' h1 h2
  have := bl_le_iff.2 h3
  unfold nl at *
  omega
set_option maxRecDepth 100000 in
set_option maxHeartbeats 1000000 in
theorem rmulq_any (n1 n2 : Bool) (N1 D1 N2 D2 : Nat) (ao1 bo1 ao2 bo2 : Option Addr) (ac1 bc1 ac2 bc2 : Nat) (w : World) (a1 : LS w ao1 ac1 (lo N1)) (b1 : LS w bo1 bc1 (lo D1)) (a2 : LS w ao2 ac2 (lo N2)) (b2 : LS w bo2 bc2 (lo D2)) (hT : TabW w) (k1 : nl N1 ≤ 256) (k2 : nl D1 ≤ 256) (k3 : nl N2 ≤ 256) (k4 : nl D2 ≤ 256) :
    Calls Tryd.prog 42 #[.agg #[.bool n1, .slice ao1 (nl N1) ac1, .slice bo1 (nl D1) bc1], .agg #[.bool n2, .slice ao2 (nl N2) ac2, .slice bo2 (nl D2) bc2]] w (GaveR w (nmA (n1 != n2) (N1 * N2) (D1 * D2)).1 (nmA (n1 != n2) (N1 * N2) (D1 * D2)).2) := by
  have AB := ((B3q.new w (.bool n1) (.slice ao1 (nl N1) ac1) (.slice bo1 (nl D1) bc1) 25).alloc (.cells #[.bool n2, .slice ao2 (nl N2) ac2, .slice bo2 (nl D2) bc2] 25)).alloc (.cells #[.bool false, .slice none 0 0, .slice none 0 0] 25)
  have BB := (B3q.new (w.alloc (.cells #[.bool n1, .slice ao1 (nl N1) ac1, .slice bo1 (nl D1) bc1] 25)) (.bool n2) (.slice ao2 (nl N2) ac2) (.slice bo2 (nl D2) bc2) 25).alloc (.cells #[.bool false, .slice none 0 0, .slice none 0 0] 25)
  have OB := B3q.new ((w.alloc (.cells #[.bool n1, .slice ao1 (nl N1) ac1, .slice bo1 (nl D1) bc1] 25)).alloc (.cells #[.bool n2, .slice ao2 (nl N2) ac2, .slice bo2 (nl D2) bc2] 25)) (.bool false) (.slice none 0 0) (.slice none 0 0) 25
  have hs1 : (w.alloc (.cells #[.bool n1, .slice ao1 (nl N1) ac1, .slice bo1 (nl D1) bc1] 25)).heap.size = w.heap.size + 1 := by simp
  have hs2 : ((w.alloc (.cells #[.bool n1, .slice ao1 (nl N1) ac1, .slice bo1 (nl D1) bc1] 25)).alloc (.cells #[.bool n2, .slice ao2 (nl N2) ac2, .slice bo2 (nl D2) bc2] 25)).heap.size = w.heap.size + 1 + 1 := by simp
  rw [hs1] at BB
  rw [hs2] at OB
  have hb0 : Below w.heap.size w (((w.alloc (.cells #[.bool n1, .slice ao1 (nl N1) ac1, .slice bo1 (nl D1) bc1] 25)).alloc (.cells #[.bool n2, .slice ao2 (nl N2) ac2, .slice bo2 (nl D2) bc2] 25)).alloc (.cells #[.bool false, .slice none 0 0, .slice none 0 0] 25)) := (((Below.refl _ _).alloc (Nat.le_refl _) _).alloc (by rw [hs1]; omega) _).alloc (by rw [hs2]; omega) _
  have A1 := a1.below hb0
  have B1 := b1.below hb0
  have A2 := a2.below hb0
  have B2 := b2.below hb0
  have T1 := tabW_below hT hb0
  obtain ⟨o, er, hnm⟩ : ∃ o er, nmA (n1 != n2) (N1 * N2) (D1 * D2) = (o, er) := ⟨_, _, rfl⟩
  rw [hnm]
  have e1 := lo_length N1
  have e2 := lo_length D1
  have e3 := lo_length N2
  have e4 := lo_length D2
  go_enter Tryd.func42, Tryd.ntmps42
  go_upto_region 1 with fail
  generalize ((w.alloc (.cells #[.bool n1, .slice ao1 (nl N1) ac1, .slice bo1 (nl D1) bc1] 25)).alloc (.cells #[.bool n2, .slice ao2 (nl N2) ac2, .slice bo2 (nl D2) bc2] 25)).alloc (.cells #[.bool false, .slice none 0 0, .slice none 0 0] 25) = W0 at *
  clear hs1 hs2 hT a1 b1 a2 b2
  have u1 : ¬ w.heap.size = w.heap.size + 1 + 1 := by omega
  have u2 : ¬ w.heap.size + 1 + 1 = w.heap.size := by omega
  have u3 : ¬ w.heap.size + 1 = w.heap.size + 1 + 1 := by omega
  have u4 : ¬ w.heap.size + 1 + 1 = w.heap.size + 1 := by omega
  obtain ⟨x0, x1, x2, _, _, _, _, xlt⟩ := id AB
  obtain ⟨y0, y1, y2, _, _, _, _, ylt⟩ := id BB
  obtain ⟨o0, o1, o2, q0, q1, q2, _, olt⟩ := id OB
  have HC : ∀ w', Below W0.heap.size W0 w' → w'.cell? ⟨w.heap.size, 0, none⟩ = some (.bool n1) ∧ w'.cell? ⟨w.heap.size, 1, none⟩ = some (.slice ao1 (nl N1) ac1) ∧ w'.cell? ⟨w.heap.size, 2, none⟩ = some (.slice bo1 (nl D1) bc1) ∧ w'.cell? ⟨w.heap.size + 1, 0, none⟩ = some (.bool n2) ∧ w'.cell? ⟨w.heap.size + 1, 1, none⟩ = some (.slice ao2 (nl N2) ac2) ∧ w'.cell? ⟨w.heap.size + 1, 2, none⟩ = some (.slice bo2 (nl D2) bc2) := fun w' h =>
    ⟨(AB.below h).c0, (AB.below h).c1, (AB.below h).c2, (BB.below h).c0, (BB.below h).c1, (BB.below h).c2⟩
  have b1d := (Below.refl W0.heap.size W0).drew
  have m1 := lmul_any (lo N1) (lo N2) ao1 ao2 ac1 ac2 W0.drew (A1.1.below b1d) (A2.1.below b1d) (lo_lm _) (lo_lm _) (by omega) (by omega)
  have m2 := fun w' (h : Below W0.heap.size W0 w') => lmul_any (lo D1) (lo D2) bo1 bo2 bc1 bc2 w' (B1.1.below h) (B2.1.below h) (lo_lm _) (lo_lm _) (by omega) (by omega)
  simp only [lo_length, vl_lo] at m1 m2
  have l1 : nl (N1 * N2) ≤ 600 := nl_mul (by omega) (by omega)
  have l2 : nl (D1 * D2) ≤ 600 := nl_mul (by omega) (by omega)
  obtain ⟨P, eP⟩ : ∃ P, N1 * N2 = P := ⟨_, rfl⟩
  obtain ⟨Q, eQ⟩ : ∃ Q, D1 * D2 = Q := ⟨_, rfl⟩
  rw [eP] at m1 hnm l1
  simp only [eQ] at m2
  rw [eQ] at hnm l2
  have cn := fun w' po pc qo qc (h : Below W0.heap.size W0 w') (hp : LS w' po pc (lo P)) (hq : LS w' qo qc (lo Q)) => rnorm_any (n1 != n2) (lo P) (lo Q) po qo pc qc w' hp hq (lo_lm _) (lo_lm _) (by rw [lo_length]; omega) (by rw [lo_length]; omega) (tabW_below T1 h)
  simp only [lo_length, vl_lo, hnm] at cn
  clear hnm eP eQ
  have m0 := HC _ b1d
  cases o with
  | none =>
    unfold GaveR at cn
    go_region_held3 (fun w' => w'.cell? ⟨w.heap.size, 0, none⟩ = some (.bool n1) ∧ w'.cell? ⟨w.heap.size, 1, none⟩ = some (.slice ao1 (nl N1) ac1) ∧ w'.cell? ⟨w.heap.size, 2, none⟩ = some (.slice bo1 (nl D1) bc1) ∧ w'.cell? ⟨w.heap.size + 1, 0, none⟩ = some (.bool n2) ∧ w'.cell? ⟨w.heap.size + 1, 1, none⟩ = some (.slice ao2 (nl N2) ac2) ∧ w'.cell? ⟨w.heap.size + 1, 2, none⟩ = some (.slice bo2 (nl D2) bc2)) (go_keep)
      (first
        | (go_at_call 15; refine (cn _ _ _ _ _ b4 hP4 hQ4).mono ?_; rintro e w5 ⟨rfl, hb5⟩; have b5 := b4.trans (hb5.mono b4.size); have k5 := HC _ b5; have OB5 := OB.below b5; obtain ⟨o0', o1', o2', q0', q1', q2', _, _⟩ := id OB5)
        | (go_at_call 56; refine (m2 _ b3).mono ?_; rintro e w4 ⟨qo, qc, rfl, hQ4, hb4⟩; have b4 := b3.trans (hb4.mono b3.size); have k4 := HC _ b4; have hP4 := hP3.below hb4)
        | (go_at_call 56; refine m1.mono ?_; rintro e w3 ⟨po, pc, rfl, hP3, hb3⟩; have b3 : Below W0.heap.size W0 w3 := b1d.trans hb3; have k3 := HC _ b3))
    have b6 := hb0.trans (b5.mono hb0.size)
    go_wp2
    exact bodyPost_ret (v := .tuple #[.agg #[.bool false, .slice none 0 0, .slice none 0 0], .int .i64 er]) (by simp [results, Tryd.results42, go_sem, o0', o1', o2']) rfl ⟨rfl, below_three b6 (by omega) _ _ _⟩
  | some r =>
    obtain ⟨ng, N3, D3⟩ := r
    unfold GaveR at cn
    go_region_held3 (fun w' => w'.cell? ⟨w.heap.size, 0, none⟩ = some (.bool n1) ∧ w'.cell? ⟨w.heap.size, 1, none⟩ = some (.slice ao1 (nl N1) ac1) ∧ w'.cell? ⟨w.heap.size, 2, none⟩ = some (.slice bo1 (nl D1) bc1) ∧ w'.cell? ⟨w.heap.size + 1, 0, none⟩ = some (.bool n2) ∧ w'.cell? ⟨w.heap.size + 1, 1, none⟩ = some (.slice ao2 (nl N2) ac2) ∧ w'.cell? ⟨w.heap.size + 1, 2, none⟩ = some (.slice bo2 (nl D2) bc2)) (go_keep)
      (first
        | (go_at_call 15; refine (cn _ _ _ _ _ b4 hP4 hQ4).mono ?_; rintro e w5 ⟨ro, rc, so, sc, rfl, hA3, hB3, hb5⟩; have b5 := b4.trans (hb5.mono b4.size); have k5 := HC _ b5; have OB5 := OB.below b5; obtain ⟨o0', o1', o2', q0', q1', q2', _, _⟩ := id OB5)
        | (go_at_call 56; refine (m2 _ b3).mono ?_; rintro e w4 ⟨qo, qc, rfl, hQ4, hb4⟩; have b4 := b3.trans (hb4.mono b3.size); have k4 := HC _ b4; have hP4 := hP3.below hb4)
        | (go_at_call 56; refine m1.mono ?_; rintro e w3 ⟨po, pc, rfl, hP3, hb3⟩; have b3 : Below W0.heap.size W0 w3 := b1d.trans hb3; have k3 := HC _ b3))
    have b6 := hb0.trans (b5.mono hb0.size)
    go_wp2
    exact bodyPost_ret (v := .tuple #[.agg #[.bool ng, .slice ro (nl N3) rc, .slice so (nl D3) sc], .int .i64 0]) (by simp [results, Tryd.results42, go_sem, o0', o1', o2']) rfl ⟨ro, rc, so, sc, rfl, hA3.threeB OB5 _ _ _, hB3.threeB OB5 _ _ _, below_three b6 (by omega) _ _ _⟩
end Go.Proofs.YtmcnnnmlacpppaaDoor
