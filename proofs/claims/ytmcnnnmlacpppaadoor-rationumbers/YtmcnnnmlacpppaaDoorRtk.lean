/- Ratios: Round. -/
import Derived.Test.YtmcnnnmlacpppaaDoorRtj
import Derived.Test.YtmcnnnmlacpppaaDoorZo
namespace Go.Proofs.YtmcnnnmlacpppaaDoor
open Go.RowKit

/-- How far a quotient is shifted. -/
def upR (N D : Nat) : Int := 64 + (bl D : Int) - (bl N : Int)
def quA (N D : Nat) : Nat := N * 2 ^ (max (upR N D) 0).toNat
def quB (N D : Nat) : Nat := D * 2 ^ (max (-(upR N D)) 0).toNat
/-- Twice the quotient, and one more if anything is left. -/
def nrR (N D : Nat) : Nat := 2 * (quA N D / quB N D) + if quA N D % quB N D = 0 then 0 else 1
/-- What Round tells. -/
def rnR (n : Bool) (N D : Nat) (m : Int) : Nat := rndW (normD ⟨n, lo (nrR N D), -(upR N D) - 1⟩).1 m
theorem quB_pos {N D : Nat} (h : D ≠ 0) : quB N D ≠ 0 := Nat.mul_ne_zero h (Nat.ne_of_gt (Nat.two_pow_pos _))
theorem qu_le {N D : Nat} (hN : N ≠ 0) (hD : D ≠ 0) : quB N D ≤ quA N D := by
  have a : bl (quA N D) = bl N + (max (upR N D) 0).toNat := bl_mul_pow hN
  have b : bl (quB N D) = bl D + (max (-(upR N D)) 0).toNat := bl_mul_pow hD
  have c : bl (quA N D) = bl (quB N D) + 64 := by rw [a, b]; unfold upR; omega
  have d := bl_spec (v := quA N D) (Nat.mul_ne_zero hN (Nat.ne_of_gt (Nat.two_pow_pos _)))
  have e : quB N D < 2 ^ bl (quB N D) := bl_le_iff.1 (Nat.le_refl _)
  have f : 2 ^ bl (quB N D) ≤ 2 ^ (bl (quA N D) - 1) := Nat.pow_le_pow_right (by omega) (by omega)
  omega
/-- Shift by one place, with the row that may be written. -/
theorem lsh1_any (q : Nat) (qo : Option Addr) (qc : Nat) (w : World) (h : LRow w qo (lo q)) (hq : nl q ≤ 1000) :
    Calls Tryd.prog 39 #[.slice qo (nl q) qc, .int .i64 1] w fun e w' => ∃ (no : Option Addr) (nc : Nat), e = .returned (.slice no (nl (2 * q)) nc) ∧ LRow w' no (lo (2 * q)) ∧ (q ≠ 0 → ∃ g, no = some ⟨g, 0, none⟩ ∧ FRow w' g (nl (2 * q)) (fun j => (lo (2 * q)).getD j 0) ∧ w.heap.size ≤ g) ∧ Below w.heap.size w w' := by
  have e1 := lo_length q
  by_cases h0 : q = 0
  · subst h0
    have := shift_none (lo 0) qo qc 1 0 (by rw [vl_lo]; rfl) w h (lo_lm 0) (by omega) (by omega) (by omega) (Or.inl rfl)
    rw [e1] at this
    refine this.mono fun e w' ⟨he, hw⟩ => ?_
    subst he hw
    exact ⟨none, 0, rfl, Or.inl rfl, fun hh => absurd rfl hh, Below.refl _ _⟩
  · have hb := bl_pos h0
    have hb2 : bl q ≤ 64 * nl q := by unfold nl; omega
    obtain ⟨n, hn'⟩ : ∃ n : Nat, (n : Int) = ((bl q : Int) + 1 + 64 - 1) / 64 := ⟨(((bl q : Int) + 1 + 64 - 1) / 64).toNat, by omega⟩
    have ee : bl (2 * q) = bl q + 1 := by have := bl_mul_pow (k := 1) h0; rw [Nat.pow_one, Nat.mul_comm] at this; exact this
    have e2 : nl (2 * q) = n := by unfold nl; rw [ee]; omega
    have := shift_any (lo q) qo qc 1 (bl q) n (by rw [vl_lo]) hn' w h (lo_lm q) (by omega) (by omega) (by omega) (by omega) (by omega) (by omega) (by omega)
    rw [e1, vl_lo] at this
    refine this.mono fun e w' ⟨he, hF, hw⟩ => ?_
    subst he
    have hF2 : FRow w' w.heap.size n (fun j => (lo (2 * q)).getD j 0) := hF.congr fun j hj => by
      unfold lo
      rw [tl_getD (by rw [e2]; exact hj)]
      have := win_up q 1 j
      rw [Nat.pow_one, Nat.mul_comm q 2] at this
      rw [← this]
      congr 1
      omega
    refine ⟨some ⟨w.heap.size, 0, none⟩, n, by rw [e2], FRow.lrow hF2 (by rw [lo_length, e2]) (fun j _ => rfl), fun _ => ⟨w.heap.size, rfl, by rw [e2]; exact hF2, Nat.le_refl _⟩, hw⟩
/-- An even number and one more. -/
theorem lo_succ {q : Nat} (h : q ≠ 0) : nl (2 * q + 1) = nl (2 * q) ∧ (lo (2 * q)).getD 0 0 + 1 < 18446744073709551616 ∧ ∀ j, j < nl (2 * q) → (if j = 0 then (lo (2 * q)).getD 0 0 + 1 else (lo (2 * q)).getD j 0) = (lo (2 * q + 1)).getD j 0 := by
  have hb : bl (2 * q + 1) = bl (2 * q) := by
    obtain ⟨a, b, c⟩ := bl_spec (v := 2 * q) (by omega)
    have c2 : 2 ≤ bl (2 * q) := by
      have := bl_pos h
      have e := bl_mul_pow (k := 1) h
      rw [Nat.pow_one, Nat.mul_comm] at e
      omega
    have e : bl (2 * q) = bl (2 * q) - 1 + 1 := by omega
    rw [e]
    apply bl_of
    · omega
    · have f : 2 ^ (bl (2 * q) - 1 + 1) = 2 * 2 ^ (bl (2 * q) - 1) := by rw [Nat.pow_succ']
      rw [← e] at f ⊢
      omega
  have hn : nl (2 * q + 1) = nl (2 * q) := by unfold nl; rw [hb]
  have hp := nlR_pos (show 2 * q ≠ 0 by omega)
  have d0 : (lo (2 * q)).getD 0 0 = 2 * q % 18446744073709551616 := by unfold lo; rw [tl_getD hp, Nat.mul_zero, Nat.pow_zero, Nat.div_one]
  refine ⟨hn, by rw [d0]; omega, fun j hj => ?_⟩
  by_cases h0 : j = 0
  · subst h0
    rw [if_pos rfl, d0]
    unfold lo
    rw [hn, tl_getD hp, Nat.mul_zero, Nat.pow_zero, Nat.div_one]
    omega
  · rw [if_neg h0]
    unfold lo
    rw [hn, tl_getD hj, tl_getD hj]
    congr 1
    obtain ⟨k, hk⟩ : ∃ k, 64 * j = k + 1 := ⟨64 * j - 1, by omega⟩
    rw [hk, Nat.pow_succ', ← Nat.div_div_eq_div_mul, ← Nat.div_div_eq_div_mul]
    congr 1
    omega
theorem nrm_lmq (m e : Int) : Lm (nrm m e).1.mag := by
  unfold nrm
  (repeat' split) <;> first | exact lo_lm _ | (intro x hx; simp [dy0] at hx)
theorem nrm_rt (m e : Int) : rightB (nrm m e).1 = true := by
  by_cases h : (nrm m e).2 = 0
  · exact (nrm_ok h).1
  · have : (nrm m e).1 = dy0 := by
      unfold nrm at h ⊢
      (repeat' split) <;> simp_all
    rw [this]
    rfl
set_option maxRecDepth 100000 in
set_option maxHeartbeats 400000 in
theorem rround_any (n : Bool) (N D : Nat) (ao bo : Option Addr) (ac bc : Nat) (m : Int) (w : World) (h1 : LS w ao ac (lo N)) (h2 : LS w bo bc (lo D)) (hT : TabW w) (R : RqB n N D) :
    Calls Tryd.prog 17 #[.agg #[.bool n, .slice ao (nl N) ac, .slice bo (nl D) bc], .int .i8 m] w fun e w' => e = .returned (.tuple #[.float .f64 (rnR n N D m), .int .i64 0]) ∧ Below w.heap.size w w' := by
  have RB := B3q.new w (.bool n) (.slice ao (nl N) ac) (.slice bo (nl D) bc) 25
  have hb0 : Below w.heap.size w (w.alloc (.cells #[.bool n, .slice ao (nl N) ac, .slice bo (nl D) bc] 25)) := (Below.refl _ _).alloc (Nat.le_refl _) _
  have L1 := h1.below hb0
  have L2 := h2.below hb0
  have T1 := tabW_below hT hb0
  have HTW : Hid (TabW w) := hT
  have r1 := rrightq_any n N D ao bo ac bc _ L1.1 L2.1 T1 R
  have k1 := R.n
  have k2 := R.d
  have e1 := lo_length N
  have e2 := lo_length D
  go_enter Tryd.func17, Tryd.ntmps17
  go_upto_region 1 with fail
  generalize w.alloc (.cells #[.bool n, .slice ao (nl N) ac, .slice bo (nl D) bc] 25) = W0 at *
  obtain ⟨x0, x1, x2, _, _, _, _, _⟩ := id RB
  go_upto_region 3 with (go_at_call 21; refine r1.mono ?_; rintro e w3 ⟨rfl, b3⟩; have RB3 := RB.below b3)
  have M1 := L1.below b3
  have M2 := L2.below b3
  have T3 := tabW_below T1 b3
  have hb3 := hb0.trans (b3.mono hb0.size)
  clear x0 x1 x2 RB L1 L2 T1 r1 hb0 b3 hT h1 h2
  obtain ⟨x0, x1, x2, f0, f1, f2, _, xlt⟩ := id RB3
  have c1 : ∀ k, Calls Tryd.prog 44 #[.slice ao (nl N) ac] (w3.drewN k) fun e w' => e = .returned (.int .i64 (bl N)) ∧ ∃ k, w' = w3.drewN k := fun k => by
    have := bitLen_any (lo N) ao ac (w3.drewN k) (M1.1.below ((Alike.drewN k).below _)) (lo_lm _) (by omega)
    rw [e1, vl_lo] at this
    exact this.mono fun e w' ⟨q1, q2⟩ => ⟨q1, k, q2⟩
  have c2 : ∀ k, Calls Tryd.prog 44 #[.slice bo (nl D) bc] (w3.drewN k) fun e w' => e = .returned (.int .i64 (bl D)) ∧ ∃ k, w' = w3.drewN k := fun k => by
    have := bitLen_any (lo D) bo bc (w3.drewN k) (M2.1.below ((Alike.drewN k).below _)) (lo_lm _) (by omega)
    rw [e2, vl_lo] at this
    exact this.mono fun e w' ⟨q1, q2⟩ => ⟨q1, k, q2⟩
  have bN : bl N ≤ 64 * nl N := by unfold nl; omega
  have bD : bl D ≤ 64 * nl D := by unfold nl; omega
  obtain ⟨up, eup⟩ : ∃ up, 64 + (bl D : Int) - (bl N : Int) = up := ⟨_, rfl⟩
  have u1 : -16384 ≤ up ∧ up ≤ 16448 := by omega
  have w1 : IntKind.i64.wrap (64 + (bl D : Int)) = 64 + (bl D : Int) := wrapI_id (by omega) (by omega)
  have w2 : IntKind.i64.wrap (64 + (bl D : Int) - (bl N : Int)) = up := by rw [wrapI_id (by omega) (by omega)]; exact eup
  go_quiet ((first | (go_at_call_of 44 (Value.slice ao (nl N) ac); exact c1 _) | (go_at_call_of 44 (Value.slice bo (nl D) bc); exact c2 _)))
  have A0 := Alike.drewN (w := w3) nq
  generalize w3.drewN nq = W4 at *
  go_upto_region 4 with fail
  have RB4 := RB3.below (A0.below _)
  have M3 := M1.below (A0.below _)
  have M4 := M2.below (A0.below _)
  have T4 := tabW_below T3 (A0.below _)
  have hb4 := hb3.trans (A0.below _)
  clear x0 x1 x2 f0 f1 f2 xlt RB3 M1 M2 T3 hb3 A0 c1 c2 w1 w2
  obtain ⟨x0, x1, x2, _, _, _, _, xlt⟩ := id RB4
  obtain ⟨p1, ep1⟩ : ∃ p1 : Nat, (max up 0).toNat = p1 := ⟨_, rfl⟩
  obtain ⟨p2, ep2⟩ : ∃ p2 : Nat, (max (-up) 0).toNat = p2 := ⟨_, rfl⟩
  have q1 : p1 ≤ 20000 := by omega
  have q2 : p2 ≤ 20000 := by omega
  have b4d := (Below.refl W4.heap.size W4).drew
  have m1 := lshift_any (lo N) ao ac (p1 : Int) W4.drew (M3.1.below b4d) (lo_lm _) (by omega) (by omega) (by omega)
  have m2 := fun w' (h : Below W4.heap.size W4 w') => lshift_any (lo D) bo bc (p2 : Int) w' (M4.1.below h) (lo_lm _) (by omega) (by omega) (by omega)
  simp only [lo_length, vl_lo, Int.toNat_natCast] at m1 m2
  have eA : quA N D = N * 2 ^ p1 := by unfold quA upR; rw [eup, ep1]
  have eB : quB N D = D * 2 ^ p2 := by unfold quB upR; rw [eup, ep2]
  rw [← eA] at m1
  simp only [← eB] at m2
  have hB0 := quB_pos (N := N) R.d0
  have hle := fun hN : N ≠ 0 => qu_le hN R.d0
  have lA : nl (quA N D) ≤ 600 := by
    rw [eA]
    by_cases hN : N = 0
    · rw [hN, Nat.zero_mul]; decide
    · unfold nl; rw [bl_mul_pow hN]; omega
  have lB : nl (quB N D) ≤ 600 := by rw [eB]; unfold nl; rw [bl_mul_pow R.d0]; omega
  have hA00 : N = 0 → quA N D = 0 := fun h => by rw [eA, h, Nat.zero_mul]
  have hRN : rnR n N D m = rndW (normD ⟨n, lo (2 * (quA N D / quB N D) + if quA N D % quB N D = 0 then 0 else 1), -up - 1⟩).1 m := by unfold rnR nrR; unfold upR; rw [eup]
  clear eA eB
  generalize quA N D = A at *
  generalize quB N D = B at *
  obtain ⟨res, eres⟩ : ∃ res, rnR n N D m = res := ⟨_, rfl⟩
  rw [eres] at hRN
  have HRN : Hid _ := hRN
  have HRES : Hid _ := eres
  have d1 := fun w' xo xc yo yc (hx : LS w' xo xc (lo A)) (hy : LS w' yo yc (lo B)) => ldiv_any (lo A) (lo B) xo yo xc yc w' hx.1 hy (lo_lm _) (lo_lm _) (by rw [lo_length]; omega) (by rw [lo_length]; omega) (by rw [vl_lo]; exact hB0)
  simp only [lo_length, vl_lo] at d1
  have HLE : Hid _ := hle
  have HA0 : Hid _ := hA00
  have HMX : Hid (((max up 0).toNat = p1) ∧ (max (-up) 0).toNat = p2) := ⟨ep1, ep2⟩
  clear hRN eres hle hA00 ep1 ep2
  have HC : ∀ w', Below W4.heap.size W4 w' → w'.cell? ⟨w.heap.size, 0, none⟩ = some (.bool n) ∧ w'.cell? ⟨w.heap.size, 1, none⟩ = some (.slice ao (nl N) ac) ∧ w'.cell? ⟨w.heap.size, 2, none⟩ = some (.slice bo (nl D) bc) := fun w' h => ⟨(RB4.below h).c0, (RB4.below h).c1, (RB4.below h).c2⟩
  have m0 := HC _ b4d
  have hmx1 : (if up < 0 then (0 : Int) else up) = (p1 : Int) := by have := HMX.out.1; split <;> omega
  have hmx2 : (if -up < 0 then (0 : Int) else -up) = (p2 : Int) := by have := HMX.out.2; split <;> omega
  have w5 : IntKind.i64.wrap (-up) = -up := wrapI_id (by omega) (by omega)
  have hmx3 : (if 0 < up then (0 : Int) else -up) = (p2 : Int) := by have := HMX.out.2; split <;> omega
  go_cut [7, 8] from 12 (fun s7 s8 wx => ∃ (qo ro : Option Addr) (qc rc : Nat), s7 = .slice qo (nl (A / B)) qc ∧ s8 = .slice ro (nl (A % B)) rc ∧ LS wx qo qc (lo (A / B)) ∧ LS wx ro rc (lo (A % B)) ∧ Below W4.heap.size W4 wx)
  case first =>
   go_region_held3 (fun w' => w'.cell? ⟨w.heap.size, 0, none⟩ = some (.bool n) ∧ w'.cell? ⟨w.heap.size, 1, none⟩ = some (.slice ao (nl N) ac) ∧ w'.cell? ⟨w.heap.size, 2, none⟩ = some (.slice bo (nl D) bc)) (go_keep)
     (first
      | (go_at_call 46; refine (d1 _ _ _ _ _ hA6 hB6).mono ?_; rintro e w7 ⟨qo, qc, ro, rc, rfl, hQ7, hR7, hb7⟩; have b7 := b6.trans (hb7.mono b6.size); have k7 := HC _ b7)
      | (go_at_call 39; refine (m2 _ b5).mono ?_; rintro e w6 ⟨yo, yc, rfl, hB6, hb6⟩; have b6 := b5.trans (hb6.mono b5.size); have k6 := HC _ b6; have hA6 := hA5.below hb6)
      | (go_at_call 39; refine m1.mono ?_; rintro e w5 ⟨xo, xc, rfl, hA5, hb5⟩; have b5 : Below W4.heap.size W4 w5 := b4d.trans hb5; have k5 := HC _ b5))
   all_goals
     go_wp2
     go_meet
     exact ⟨qo, ro, qc, rc, rfl, rfl, hQ7, hR7, b7⟩
  clear m1 m2 d1 m0 hmx1 hmx2 hmx3 x0 x1 x2
  obtain ⟨qo, ro, qc, rc, rfl, rfl, hQ, hRR, hbc⟩ := hcut
  have RB5 := RB4.below hbc
  have T5 := tabW_below T4 hbc
  have hb5 := hb4.trans (hbc.mono hb4.size)
  have HQ0 : Hid (A % B ≠ 0 → A / B ≠ 0) := fun hr => by
    by_cases hN : N = 0
    · have := HA0.out hN
      rw [this, Nat.zero_mod] at hr
      exact absurd rfl hr
    · have := HLE.out hN
      exact Nat.ne_of_gt (Nat.div_pos this (Nat.pos_of_ne_zero hB0))
  have lq : nl (A / B) ≤ 1000 := Nat.le_trans (nl_mono (Nat.div_le_self A B)) (by omega)
  have cs := lsh1_any (A / B) qo qc wc hQ.1 lq
  clear HLE HA0 hB0 lA lB RB4 T4 hb4 hbc M3 M4 HC HMX
  generalize A / B = q at *
  generalize A % B = r at *
  obtain ⟨x0, x1, x2, f0, f1, f2, _, xlt⟩ := id RB5
  go_upto_region 6 with (go_at_call 39; refine cs.mono ?_; rintro e w6 ⟨no, nc, rfl, hNr, hNw, hb6⟩)
  have RB6 := RB5.below hb6
  have T6 := tabW_below T5 hb6
  have hb7 := hb5.trans (hb6.mono hb5.size)
  clear cs x0 x1 x2 f0 f1 f2
  obtain ⟨Z, eZ⟩ : ∃ Z, 2 * q + (if r = 0 then 0 else 1) = Z := ⟨_, rfl⟩
  have hRN := HRN.out
  rw [eZ] at hRN
  have HRZ : Hid _ := hRN
  clear hRN HRN
  go_upto_if 42 with fail
  go_cut [9] from 12 (fun s9 wx => ∃ (no : Option Addr) (nc : Nat), s9 = .slice no (nl Z) nc ∧ LRow wx no (lo Z) ∧ B3q wx w.heap.size (.bool n) (.slice ao (nl N) ac) (.slice bo (nl D) bc) ∧ Below w.heap.size w wx)
  case first =>
    by_cases hr : r = 0
    · rw [if_pos hr, Nat.add_zero] at eZ
      subst hr
      subst eZ
      have n0 : nl 0 = 0 := rfl
      go_wp2
      go_meet
      exact ⟨no, nc, rfl, hNr, RB6, hb7⟩
    · rw [if_neg hr] at eZ
      have hq := HQ0.out hr
      have z1 : (0 : Int) < (nl r : Int) := by have := nlR_pos hr; omega
      obtain ⟨l1, l2, l3⟩ := lo_succ hq
      obtain ⟨g, rfl, hF, hg⟩ := hNw hq
      rw [eZ] at l1 l3
      have hp := nlR_pos (show 2 * q ≠ 0 by omega)
      have g1 := hF.cell (i := 0) hp
      have g2 := World.rowIs.frozen hF 0
      have hset := hF.set 0 ((lo (2 * q)).getD 0 0 + 1)
      obtain ⟨v, ev⟩ : ∃ v, (lo (2 * q)).getD 0 0 = v := ⟨_, rfl⟩
      replace g1 : w6.cell? ⟨g, 0, none⟩ = some (.int .u64 v) := by rw [g1]; show some (Value.int .u64 (((lo (2 * q)).getD 0 0 : Nat) : Int)) = _; rw [ev]
      rw [ev] at l2 hset l3
      have w8 : IntKind.u64.wrap ((v : Int) + 1) = ((v + 1 : Nat) : Int) := by rw [IntKind.wrap_u64]; omega
      have hF2 : FRow (w6.setCell ⟨g, 0, none⟩ (.int .u64 ((v + 1 : Nat) : Int))) g (nl Z) (fun j => (lo Z).getD j 0) := by
        rw [l1]
        exact hset.congr fun j hj => by rw [← l3 j hj]
      have RB7 := RB6.far (g := g) (by have := RB5.lt; omega) (i := 0) (.int .u64 ((v + 1 : Nat) : Int))
      have b8 := hb7.setCell (p := ⟨g, 0, none⟩) (by show w.heap.size ≤ g; have := RB5.lt; omega) (.int .u64 ((v + 1 : Nat) : Int))
      have hL8 := FRow.lrow hF2 (lo_length Z) (fun j _ => rfl)
      have hp2 : (0 : Int) < (nl (2 * q) : Int) := by omega
      have L1 : Hid _ := l1
      clear hset l3 ev hF hF2 hNr hNw l1
      go_wp2
      go_meet
      exact ⟨_, nc, by rw [L1.out], hL8, RB7, b8⟩
  have lZ : nl Z ≤ 70000 := by
    have h1 : Z ≤ 2 * q + 1 := by rw [← eZ]; split <;> omega
    have h2 : nl (2 * q + 1) ≤ 70000 := by
      have h3 : 2 * q + 1 < 2 ^ (bl q + 1) := by have h4 : q < 2 ^ bl q := bl_le_iff.1 (Nat.le_refl _); rw [Nat.pow_succ]; omega
      have h5 := bl_le_iff.2 h3
      unfold nl at *
      omega
    exact Nat.le_trans (nl_mono h1) h2
  clear hNr hNw RB5 T5 T6 hb6 RB6 hb5 hQ hRR HQ0 eZ lq
  obtain ⟨no2, nc2, rfl, hNl, RB8, hb8⟩ := hcut
  have T8 := tabW_below HTW.out hb8
  have cn := norm_any ⟨n, lo Z, -up - 1⟩ no2 nc2 wc hNl (lo_lm Z) T8 (by show (lo Z).length ≤ _; rw [lo_length]; omega)
  have hrt : rightB (normD ⟨n, lo Z, -up - 1⟩).1 = true := nrm_rt _ _
  have hlm : Lm (normD ⟨n, lo Z, -up - 1⟩).1.mag := nrm_lmq _ _
  obtain ⟨⟨⟨rn, rm, re⟩, rk⟩, hnd⟩ : ∃ r, normD ⟨n, lo Z, -up - 1⟩ = r := ⟨_, rfl⟩
  have hF := HRZ.out
  rw [hnd] at cn hrt hlm hF
  have HF : Hid _ := hF
  unfold Gave at cn
  simp only [lo_length] at cn
  have w9 : IntKind.i64.wrap (-up - 1) = -up - 1 := wrapI_id (by omega) (by omega)
  have cr := fun w' ro2 rc2 (h : LRow w' ro2 rm) => Round_ok rn rm re ro2 rc2 m w' h hlm hrt
  generalize rndW ⟨rn, rm, re⟩ m = fl at *
  clear hF HRZ hnd hNl T8 hrt hlm
  obtain ⟨x0, x1, x2, _, _, _, _, _⟩ := id RB8
  go_upto_region 9 with (go_at_call 48; refine cn.mono ?_; rintro e w9 ⟨ro2, rc2, rfl, hR9, hfr, hb9⟩)
  have hb10 := (hb8.trans (hb9.mono hb8.size))
  have LB := B3q.new w9 (.bool rn) (.slice ro2 rm.length rc2) (.int .i64 re) 34
  have hL10 := hR9.below ((Below.refl w9.heap.size w9).alloc (Nat.le_refl _) (.cells #[.bool rn, .slice ro2 rm.length rc2, .int .i64 re] 34))
  have hb11 := hb10.alloc hb10.size (.cells #[.bool rn, .slice ro2 rm.length rc2, .int .i64 re] 34)
  generalize w9.alloc (.cells #[.bool rn, .slice ro2 rm.length rc2, .int .i64 re] 34) = W10 at *
  obtain ⟨y0, y1, y2, _, _, _, _, _⟩ := id LB
  have cr2 := cr W10 ro2 rc2 hL10
  clear cr cn
  go_wp2_with (go_at_call 49; refine cr2.mono ?_; rintro e w11 ⟨rfl, hb12⟩)
  go_ret2
  exact ⟨congrArg (fun z => Ending.returned (.tuple #[.float .f64 z, .int .i64 0])) (HRES.out.trans HF.out).symm, hb11.trans (hb12.mono hb11.size)⟩
end Go.Proofs.YtmcnnnmlacpppaaDoor
