/- The laws' awake: 1/3 and 1/6 are 1/2; 1/3 rounded up. -/
import Derived.Test.YtnclddfljghebaaGreatDoorQ5
import Derived.Test.YtnclddfljghebaaGreatDoorZo
namespace Go.Proofs.YtnclddfljghebaaGreatDoor
open Go.RowKit

/-- How far a quotient is shifted. -/
def upR (N D : Nat) : Int := 64 + (bl D : Int) - (bl N : Int)
def quA (N D : Nat) : Nat := N * 2 ^ (max (upR N D) 0).toNat
def quB (N D : Nat) : Nat := D * 2 ^ (max (-(upR N D)) 0).toNat
/-- Twice the quotient, and one more if anything is left. -/
def nrR (N D : Nat) : Nat := 2 * (quA N D / quB N D) + if quA N D % quB N D = 0 then 0 else 1
/-- What Round tells. -/
def rnR (n : Bool) (N D : Nat) (m : Int) : Nat := rndW (normD ⟨n, lo (nrR N D), -(upR N D) - 1⟩).1 m
theorem quB_pos {N D : Nat} (h : D ≠ 0) : quB N D ≠ 0 := Nat.mul_ne_zero h (Nat.ne_of_gt (Nat.two_pow_pos _))
theorem qu_le {N D : Nat} (hN : N ≠ 0) (hD : D ≠ 0) : quB N D ≤ quA N D := by
  have a : bl (quA N D) = bl N + (max (upR N D) 0).toNat := bl_mul_pow hN
  have b : bl (quB N D) = bl D + (max (-(upR N D)) 0).toNat := bl_mul_pow hD
  have c : bl (quA N D) = bl (quB N D) + 64 := by rw [a, b]; unfold upR; omega
  have d := bl_spec (v := quA N D) (Nat.mul_ne_zero hN (Nat.ne_of_gt (Nat.two_pow_pos _)))
  have e : quB N D < 2 ^ bl (quB N D) := bl_le_iff.1 (Nat.le_refl _)
  have f : 2 ^ bl (quB N D) ≤ 2 ^ (bl (quA N D) - 1) := Nat.pow_le_pow_right (by omega) (by omega)
  omega
/-- Shift by one place, with the row that may be written. -/
theorem lsh1_any (q : Nat) (qo : Option Addr) (qc : Nat) (w : World) (h : LRow w qo (lo q)) (hq : nl q ≤ 1000) :
    Calls Tryz.prog 55 #[.slice qo (nl q) qc, .int .i64 1] w fun e w' => ∃ (no : Option Addr) (nc : Nat), e = .returned (.slice no (nl (2 * q)) nc) ∧ LRow w' no (lo (2 * q)) ∧ (q ≠ 0 → ∃ g, no = some ⟨g, 0, none⟩ ∧ FRow w' g (nl (2 * q)) (fun j => (lo (2 * q)).getD j 0) ∧ w.heap.size ≤ g) ∧ Below w.heap.size w w' := by
  have e1 := lo_length q
  by_cases h0 : q = 0
  · subst h0
    have := shift_none (lo 0) qo qc 1 0 (by rw [vl_lo]; rfl) w h (lo_lm 0) (by omega) (by omega) (by omega) (Or.inl rfl)
    rw [e1] at this
    refine this.mono fun e w' ⟨he, hw⟩ => ?_
    subst he hw
    exact ⟨none, 0, rfl, Or.inl rfl, fun hh => absurd rfl hh, Below.refl _ _⟩
  · have hb := bl_pos h0
    have hb2 : bl q ≤ 64 * nl q := by unfold nl; omega
    obtain ⟨n, hn'⟩ : ∃ n : Nat, (n : Int) = ((bl q : Int) + 1 + 64 - 1) / 64 := ⟨(((bl q : Int) + 1 + 64 - 1) / 64).toNat, by omega⟩
    have ee : bl (2 * q) = bl q + 1 := by have := bl_mul_pow (k := 1) h0; rw [Nat.pow_one, Nat.mul_comm] at this; exact this
    have e2 : nl (2 * q) = n := by unfold nl; rw [ee]; omega
    have := shift_any (lo q) qo qc 1 (bl q) n (by rw [vl_lo]) hn' w h (lo_lm q) (by omega) (by omega) (by omega) (by omega) (by omega) (by omega) (by omega)
    rw [e1, vl_lo] at this
    refine this.mono fun e w' ⟨he, hF, hw⟩ => ?_
    subst he
    have hF2 : FRow w' w.heap.size n (fun j => (lo (2 * q)).getD j 0) := hF.congr fun j hj => by
      unfold lo
      rw [tl_getD (by rw [e2]; exact hj)]
      have := win_up q 1 j
      rw [Nat.pow_one, Nat.mul_comm q 2] at this
      rw [← this]
      congr 1
      omega
    refine ⟨some ⟨w.heap.size, 0, none⟩, n, by rw [e2], FRow.lrow hF2 (by rw [lo_length, e2]) (fun j _ => rfl), fun _ => ⟨w.heap.size, rfl, by rw [e2]; exact hF2, Nat.le_refl _⟩, hw⟩
/-- An even number and one more. -/
theorem lo_succ {q : Nat} (h : q ≠ 0) : nl (2 * q + 1) = nl (2 * q) ∧ (lo (2 * q)).getD 0 0 + 1 < 18446744073709551616 ∧ ∀ j, j < nl (2 * q) → (if j = 0 then (lo (2 * q)).getD 0 0 + 1 else (lo (2 * q)).getD j 0) = (lo (2 * q + 1)).getD j 0 := by
  have hb : bl (2 * q + 1) = bl (2 * q) := by
    obtain ⟨a, b, c⟩ := bl_spec (v := 2 * q) (by omega)
    have c2 : 2 ≤ bl (2 * q) := by
      have := bl_pos h
      have e := bl_mul_pow (k := 1) h
      rw [Nat.pow_one, Nat.mul_comm] at e
      omega
    have e : bl (2 * q) = bl (2 * q) - 1 + 1 := by omega
    rw [e]
    apply bl_of
    · omega
    · have f : 2 ^ (bl (2 * q) - 1 + 1) = 2 * 2 ^ (bl (2 * q) - 1) := by rw [Nat.pow_succ']
      rw [← e] at f ⊢
      omega
  have hn : nl (2 * q + 1) = nl (2 * q) := by unfold nl; rw [hb]
  have hp := nlR_pos (show 2 * q ≠ 0 by omega)
  have d0 : (lo (2 * q)).getD 0 0 = 2 * q % 18446744073709551616 := by unfold lo; rw [tl_getD hp, Nat.mul_zero, Nat.pow_zero, Nat.div_one]
  refine ⟨hn, by rw [d0]; omega, fun j hj => ?_⟩
  by_cases h0 : j = 0
  · subst h0
    rw [if_pos rfl, d0]
    unfold lo
    rw [hn, tl_getD hp, Nat.mul_zero, Nat.pow_zero, Nat.div_one]
    omega
  · rw [if_neg h0]
    unfold lo
    rw [hn, tl_getD hj, tl_getD hj]
    congr 1
    obtain ⟨k, hk⟩ : ∃ k, 64 * j = k + 1 := ⟨64 * j - 1, by omega⟩
    rw [hk, Nat.pow_succ', ← Nat.div_div_eq_div_mul, ← Nat.div_div_eq_div_mul]
    congr 1
    omega
theorem nrm_lmq (m e : Int) : Lm (nrm m e).1.mag := by
  unfold nrm
  (repeat' split) <;> first | exact lo_lm _ | (intro x hx; simp [dy0] at hx)
theorem nrm_rt (m e : Int) : rightB (nrm m e).1 = true := by
  by_cases h : (nrm m e).2 = 0
  · exact (nrm_ok h).1
  · have : (nrm m e).1 = dy0 := by
      unfold nrm at h ⊢
      (repeat' split) <;> simp_all
    rw [this]
    rfl
set_option maxRecDepth 100000 in
set_option maxHeartbeats 400000 in
theorem rround_any (n : Bool) (N D : Nat) (ao bo : Option Addr) (ac bc : Nat) (m : Int) (w : World) (h1 : LS w ao ac (lo N)) (h2 : LS w bo bc (lo D)) (hT : TabW w) (R : RqB n N D) :
    Calls Tryz.prog 33 #[.agg #[.bool n, .slice ao (nl N) ac, .slice bo (nl D) bc], .int .i8 m] w fun e w' => e = .returned (.tuple #[.float .f64 (rnR n N D m), .int .i64 0]) ∧ Below w.heap.size w w' := by
  have RB := B3q.new w (.bool n) (.slice ao (nl N) ac) (.slice bo (nl D) bc) 24
  have hb0 : Below w.heap.size w (w.alloc (.cells #[.bool n, .slice ao (nl N) ac, .slice bo (nl D) bc] 24)) := (Below.refl _ _).alloc (Nat.le_refl _) _
  have L1 := h1.below hb0
  have L2 := h2.below hb0
  have T1 := tabW_below hT hb0
  have HTW : Hid (TabW w) := hT
  have r1 := rrightq_any n N D ao bo ac bc _ L1.1 L2.1 T1 R
  have k1 := R.n
  have k2 := R.d
  have e1 := lo_length N
  have e2 := lo_length D
  go_enter Tryz.func33, Tryz.ntmps33
  go_upto_region 1 with fail
  generalize w.alloc (.cells #[.bool n, .slice ao (nl N) ac, .slice bo (nl D) bc] 24) = W0 at *
  obtain ⟨x0, x1, x2, _, _, _, _, _⟩ := id RB
  go_upto_region 3 with (go_at_call 11; refine r1.mono ?_; rintro e w3 ⟨rfl, b3⟩; have RB3 := RB.below b3)
  have M1 := L1.below b3
  have M2 := L2.below b3
  have T3 := tabW_below T1 b3
  have hb3 := hb0.trans (b3.mono hb0.size)
  clear x0 x1 x2 RB L1 L2 T1 r1 hb0 b3 hT h1 h2
  obtain ⟨x0, x1, x2, f0, f1, f2, _, xlt⟩ := id RB3
  have c1 : ∀ k, Calls Tryz.prog 37 #[.slice ao (nl N) ac] (w3.drewN k) fun e w' => e = .returned (.int .i64 (bl N)) ∧ ∃ k, w' = w3.drewN k := fun k => by
    have := bitLen_any (lo N) ao ac (w3.drewN k) (M1.1.below ((Alike.drewN k).below _)) (lo_lm _) (by omega)
    rw [e1, vl_lo] at this
    exact this.mono fun e w' ⟨q1, q2⟩ => ⟨q1, k, q2⟩
  have c2 : ∀ k, Calls Tryz.prog 37 #[.slice bo (nl D) bc] (w3.drewN k) fun e w' => e = .returned (.int .i64 (bl D)) ∧ ∃ k, w' = w3.drewN k := fun k => by
    have := bitLen_any (lo D) bo bc (w3.drewN k) (M2.1.below ((Alike.drewN k).below _)) (lo_lm _) (by omega)
    rw [e2, vl_lo] at this
    exact this.mono fun e w' ⟨q1, q2⟩ => ⟨q1, k, q2⟩
  have bN : bl N ≤ 64 * nl N := by unfold nl; omega
  have bD : bl D ≤ 64 * nl D := by unfold nl; omega
  obtain ⟨up, eup⟩ : ∃ up, 64 + (bl D : Int) - (bl N : Int) = up := ⟨_, rfl⟩
  have u1 : -16384 ≤ up ∧ up ≤ 16448 := by omega
  have w1 : IntKind.i64.wrap (64 + (bl D : Int)) = 64 + (bl D : Int) := wrapI_id (by omega) (by omega)
  have w2 : IntKind.i64.wrap (64 + (bl D : Int) - (bl N : Int)) = up := by rw [wrapI_id (by omega) (by omega)]; exact eup
  go_quiet ((first | (go_at_call_of 37 (Value.slice ao (nl N) ac); exact c1 _) | (go_at_call_of 37 (Value.slice bo (nl D) bc); exact c2 _)))
  have A0 := Alike.drewN (w := w3) nq
  generalize w3.drewN nq = W4 at *
  go_upto_region 4 with fail
  have RB4 := RB3.below (A0.below _)
  have M3 := M1.below (A0.below _)
  have M4 := M2.below (A0.below _)
  have T4 := tabW_below T3 (A0.below _)
  have hb4 := hb3.trans (A0.below _)
  clear x0 x1 x2 f0 f1 f2 xlt RB3 M1 M2 T3 hb3 A0 c1 c2 w1 w2
  obtain ⟨x0, x1, x2, _, _, _, _, xlt⟩ := id RB4
  obtain ⟨p1, ep1⟩ : ∃ p1 : Nat, (max up 0).toNat = p1 := ⟨_, rfl⟩
  obtain ⟨p2, ep2⟩ : ∃ p2 : Nat, (max (-up) 0).toNat = p2 := ⟨_, rfl⟩
  have q1 : p1 ≤ 20000 := by omega
  have q2 : p2 ≤ 20000 := by omega
  have b4d := (Below.refl W4.heap.size W4).drew
  have m1 := lshift_any (lo N) ao ac (p1 : Int) W4.drew (M3.1.below b4d) (lo_lm _) (by omega) (by omega) (by omega)
  have m2 := fun w' (h : Below W4.heap.size W4 w') => lshift_any (lo D) bo bc (p2 : Int) w' (M4.1.below h) (lo_lm _) (by omega) (by omega) (by omega)
  simp only [lo_length, vl_lo, Int.toNat_natCast] at m1 m2
  have eA : quA N D = N * 2 ^ p1 := by unfold quA upR; rw [eup, ep1]
  have eB : quB N D = D * 2 ^ p2 := by unfold quB upR; rw [eup, ep2]
  rw [← eA] at m1
  simp only [← eB] at m2
  have hB0 := quB_pos (N := N) R.d0
  have hle := fun hN : N ≠ 0 => qu_le hN R.d0
  have lA : nl (quA N D) ≤ 600 := by
    rw [eA]
    by_cases hN : N = 0
    · rw [hN, Nat.zero_mul]; decide
    · unfold nl; rw [bl_mul_pow hN]; omega
  have lB : nl (quB N D) ≤ 600 := by rw [eB]; unfold nl; rw [bl_mul_pow R.d0]; omega
  have hA00 : N = 0 → quA N D = 0 := fun h => by rw [eA, h, Nat.zero_mul]
  have hRN : rnR n N D m = rndW (normD ⟨n, lo (2 * (quA N D / quB N D) + if quA N D % quB N D = 0 then 0 else 1), -up - 1⟩).1 m := by unfold rnR nrR; unfold upR; rw [eup]
  clear eA eB
  generalize quA N D = A at *
  generalize quB N D = B at *
  obtain ⟨res, eres⟩ : ∃ res, rnR n N D m = res := ⟨_, rfl⟩
  rw [eres] at hRN
  have HRN : Hid _ := hRN
  have HRES : Hid _ := eres
  have d1 := fun w' xo xc yo yc (hx : LS w' xo xc (lo A)) (hy : LS w' yo yc (lo B)) => ldiv_any (lo A) (lo B) xo yo xc yc w' hx.1 hy (lo_lm _) (lo_lm _) (by rw [lo_length]; omega) (by rw [lo_length]; omega) (by rw [vl_lo]; exact hB0)
  simp only [lo_length, vl_lo] at d1
  have HLE : Hid _ := hle
  have HA0 : Hid _ := hA00
  have HMX : Hid (((max up 0).toNat = p1) ∧ (max (-up) 0).toNat = p2) := ⟨ep1, ep2⟩
  clear hRN eres hle hA00 ep1 ep2
  have HC : ∀ w', Below W4.heap.size W4 w' → w'.cell? ⟨w.heap.size, 0, none⟩ = some (.bool n) ∧ w'.cell? ⟨w.heap.size, 1, none⟩ = some (.slice ao (nl N) ac) ∧ w'.cell? ⟨w.heap.size, 2, none⟩ = some (.slice bo (nl D) bc) := fun w' h => ⟨(RB4.below h).c0, (RB4.below h).c1, (RB4.below h).c2⟩
  have m0 := HC _ b4d
  have hmx1 : (if up < 0 then (0 : Int) else up) = (p1 : Int) := by have := HMX.out.1; split <;> omega
  have hmx2 : (if -up < 0 then (0 : Int) else -up) = (p2 : Int) := by have := HMX.out.2; split <;> omega
  have w5 : IntKind.i64.wrap (-up) = -up := wrapI_id (by omega) (by omega)
  have hmx3 : (if 0 < up then (0 : Int) else -up) = (p2 : Int) := by have := HMX.out.2; split <;> omega
  go_cut [7, 8] from 12 (fun s7 s8 wx => ∃ (qo ro : Option Addr) (qc rc : Nat), s7 = .slice qo (nl (A / B)) qc ∧ s8 = .slice ro (nl (A % B)) rc ∧ LS wx qo qc (lo (A / B)) ∧ LS wx ro rc (lo (A % B)) ∧ Below W4.heap.size W4 wx)
  case first =>
   go_region_held3 (fun w' => w'.cell? ⟨w.heap.size, 0, none⟩ = some (.bool n) ∧ w'.cell? ⟨w.heap.size, 1, none⟩ = some (.slice ao (nl N) ac) ∧ w'.cell? ⟨w.heap.size, 2, none⟩ = some (.slice bo (nl D) bc)) (go_keep)
     (first
      | (go_at_call 39; refine (d1 _ _ _ _ _ hA6 hB6).mono ?_; rintro e w7 ⟨qo, qc, ro, rc, rfl, hQ7, hR7, hb7⟩; have b7 := b6.trans (hb7.mono b6.size); have k7 := HC _ b7)
      | (go_at_call 55; refine (m2 _ b5).mono ?_; rintro e w6 ⟨yo, yc, rfl, hB6, hb6⟩; have b6 := b5.trans (hb6.mono b5.size); have k6 := HC _ b6; have hA6 := hA5.below hb6)
      | (go_at_call 55; refine m1.mono ?_; rintro e w5 ⟨xo, xc, rfl, hA5, hb5⟩; have b5 : Below W4.heap.size W4 w5 := b4d.trans hb5; have k5 := HC _ b5))
   all_goals
     go_wp2
     go_meet
     exact ⟨qo, ro, qc, rc, rfl, rfl, hQ7, hR7, b7⟩
  clear m1 m2 d1 m0 hmx1 hmx2 hmx3 x0 x1 x2
  obtain ⟨qo, ro, qc, rc, rfl, rfl, hQ, hRR, hbc⟩ := hcut
  have RB5 := RB4.below hbc
  have T5 := tabW_below T4 hbc
  have hb5 := hb4.trans (hbc.mono hb4.size)
  have HQ0 : Hid (A % B ≠ 0 → A / B ≠ 0) := fun hr => by
    by_cases hN : N = 0
    · have := HA0.out hN
      rw [this, Nat.zero_mod] at hr
      exact absurd rfl hr
    · have := HLE.out hN
      exact Nat.ne_of_gt (Nat.div_pos this (Nat.pos_of_ne_zero hB0))
  have lq : nl (A / B) ≤ 1000 := Nat.le_trans (nlR_mono (Nat.div_le_self A B)) (by omega)
  have cs := lsh1_any (A / B) qo qc wc hQ.1 lq
  clear HLE HA0 hB0 lA lB RB4 T4 hb4 hbc M3 M4 HC HMX
  generalize A / B = q at *
  generalize A % B = r at *
  obtain ⟨x0, x1, x2, f0, f1, f2, _, xlt⟩ := id RB5
  go_upto_region 6 with (go_at_call 55; refine cs.mono ?_; rintro e w6 ⟨no, nc, rfl, hNr, hNw, hb6⟩)
  have RB6 := RB5.below hb6
  have T6 := tabW_below T5 hb6
  have hb7 := hb5.trans (hb6.mono hb5.size)
  clear cs x0 x1 x2 f0 f1 f2
  obtain ⟨Z, eZ⟩ : ∃ Z, 2 * q + (if r = 0 then 0 else 1) = Z := ⟨_, rfl⟩
  have hRN := HRN.out
  rw [eZ] at hRN
  have HRZ : Hid _ := hRN
  clear hRN HRN
  go_upto_if 42 with fail
  go_cut [9] from 12 (fun s9 wx => ∃ (no : Option Addr) (nc : Nat), s9 = .slice no (nl Z) nc ∧ LRow wx no (lo Z) ∧ B3q wx w.heap.size (.bool n) (.slice ao (nl N) ac) (.slice bo (nl D) bc) ∧ Below w.heap.size w wx)
  case first =>
    by_cases hr : r = 0
    · rw [if_pos hr, Nat.add_zero] at eZ
      subst hr
      subst eZ
      have n0 : nl 0 = 0 := rfl
      go_wp2
      go_meet
      exact ⟨no, nc, rfl, hNr, RB6, hb7⟩
    · rw [if_neg hr] at eZ
      have hq := HQ0.out hr
      have z1 : (0 : Int) < (nl r : Int) := by have := nlR_pos hr; omega
      obtain ⟨l1, l2, l3⟩ := lo_succ hq
      obtain ⟨g, rfl, hF, hg⟩ := hNw hq
      rw [eZ] at l1 l3
      have hp := nlR_pos (show 2 * q ≠ 0 by omega)
      have g1 := hF.cell (i := 0) hp
      have g2 := World.rowIs.frozen hF 0
      have hset := hF.set 0 ((lo (2 * q)).getD 0 0 + 1)
      obtain ⟨v, ev⟩ : ∃ v, (lo (2 * q)).getD 0 0 = v := ⟨_, rfl⟩
      replace g1 : w6.cell? ⟨g, 0, none⟩ = some (.int .u64 v) := by rw [g1]; show some (Value.int .u64 (((lo (2 * q)).getD 0 0 : Nat) : Int)) = _; rw [ev]
      rw [ev] at l2 hset l3
      have w8 : IntKind.u64.wrap ((v : Int) + 1) = ((v + 1 : Nat) : Int) := by rw [IntKind.wrap_u64]; omega
      have hF2 : FRow (w6.setCell ⟨g, 0, none⟩ (.int .u64 ((v + 1 : Nat) : Int))) g (nl Z) (fun j => (lo Z).getD j 0) := by
        rw [l1]
        exact hset.congr fun j hj => by rw [← l3 j hj]
      have RB7 := RB6.far (g := g) (by have := RB5.lt; omega) (i := 0) (.int .u64 ((v + 1 : Nat) : Int))
      have b8 := hb7.setCell (p := ⟨g, 0, none⟩) (by show w.heap.size ≤ g; have := RB5.lt; omega) (.int .u64 ((v + 1 : Nat) : Int))
      have hL8 := FRow.lrow hF2 (lo_length Z) (fun j _ => rfl)
      have hp2 : (0 : Int) < (nl (2 * q) : Int) := by omega
      have L1 : Hid _ := l1
      clear hset l3 ev hF hF2 hNr hNw l1
      go_wp2
      go_meet
      exact ⟨_, nc, by rw [L1.out], hL8, RB7, b8⟩
  have lZ : nl Z ≤ 70000 := by
    have h1 : Z ≤ 2 * q + 1 := by rw [← eZ]; split <;> omega
    have h2 : nl (2 * q + 1) ≤ 70000 := by
      have h3 : 2 * q + 1 < 2 ^ (bl q + 1) := by have h4 : q < 2 ^ bl q := bl_le_iff.1 (Nat.le_refl _); rw [Nat.pow_succ]; omega
      have h5 := bl_le_iff.2 h3
      unfold nl at *
      omega
    exact Nat.le_trans (nlR_mono h1) h2
  clear hNr hNw RB5 T5 T6 hb6 RB6 hb5 hQ hRR HQ0 eZ lq
  obtain ⟨no2, nc2, rfl, hNl, RB8, hb8⟩ := hcut
  have T8 := tabW_below HTW.out hb8
  have cn := norm_any ⟨n, lo Z, -up - 1⟩ no2 nc2 wc hNl (lo_lm Z) T8 (by show (lo Z).length ≤ _; rw [lo_length]; omega)
  have hrt : rightB (normD ⟨n, lo Z, -up - 1⟩).1 = true := nrm_rt _ _
  have hlm : Lm (normD ⟨n, lo Z, -up - 1⟩).1.mag := nrm_lmq _ _
  obtain ⟨⟨⟨rn, rm, re⟩, rk⟩, hnd⟩ : ∃ r, normD ⟨n, lo Z, -up - 1⟩ = r := ⟨_, rfl⟩
  have hF := HRZ.out
  rw [hnd] at cn hrt hlm hF
  have HF : Hid _ := hF
  unfold Gave at cn
  simp only [lo_length] at cn
  have w9 : IntKind.i64.wrap (-up - 1) = -up - 1 := wrapI_id (by omega) (by omega)
  have cr := fun w' ro2 rc2 (h : LRow w' ro2 rm) => Round_ok rn rm re ro2 rc2 m w' h hlm hrt
  generalize rndW ⟨rn, rm, re⟩ m = fl at *
  clear hF HRZ hnd hNl T8 hrt hlm
  obtain ⟨x0, x1, x2, _, _, _, _, _⟩ := id RB8
  go_upto_region 9 with (go_at_call 72; refine cn.mono ?_; rintro e w9 ⟨ro2, rc2, rfl, hR9, hfr, hb9⟩)
  have hb10 := (hb8.trans (hb9.mono hb8.size))
  have LB := B3q.new w9 (.bool rn) (.slice ro2 rm.length rc2) (.int .i64 re) 27
  have hL10 := hR9.below ((Below.refl w9.heap.size w9).alloc (Nat.le_refl _) (.cells #[.bool rn, .slice ro2 rm.length rc2, .int .i64 re] 27))
  have hb11 := hb10.alloc hb10.size (.cells #[.bool rn, .slice ro2 rm.length rc2, .int .i64 re] 27)
  generalize w9.alloc (.cells #[.bool rn, .slice ro2 rm.length rc2, .int .i64 re] 27) = W10 at *
  obtain ⟨y0, y1, y2, _, _, _, _, _⟩ := id LB
  have cr2 := cr W10 ro2 rc2 hL10
  clear cr cn
  go_wp2_with (go_at_call 73; refine cr2.mono ?_; rintro e w11 ⟨rfl, hb12⟩)
  go_ret2
  exact ⟨congrArg (fun z => Ending.returned (.tuple #[.float .f64 z, .int .i64 0])) (HRES.out.trans HF.out).symm, hb11.trans (hb12.mono hb11.size)⟩
end Go.Proofs.YtnclddfljghebaaGreatDoor

namespace Go.Proofs.YtnclddfljghebaaGreatDoor
open Go.RowKit

set_option maxHeartbeats 400000 in
theorem small_any (n : Bool) (a b : Nat) (a0 : a ≠ 0) (b0 : b ≠ 0) (a1 : a < 18446744073709551616) (b1 : b < 18446744073709551616) (w : World) :
    Calls Tryz.prog 32 #[.bool n, .int .u64 a, .int .u64 b] w (GaveI w n a b) := by
  have RB := B3q.new w (.bool false) (.slice none 0 0) (.slice none 0 0) 24
  have hb0 : Below w.heap.size w (w.alloc (.cells #[.bool false, .slice none 0 0, .slice none 0 0] 24)) := (Below.refl _ _).alloc (Nat.le_refl _) _
  obtain ⟨p1, p2⟩ := lo_one a0 a1
  obtain ⟨q1, q2⟩ := lo_one b0 b1
  unfold GaveI
  rw [p1, q1, p2, q2]
  clear p1 p2 q1 q2
  go_enter Tryz.func32, Tryz.ntmps32
  go_upto_region 1 with fail
  generalize w.alloc (.cells #[.bool false, .slice none 0 0, .slice none 0 0] 24) = W0 at *
  have l1 : W0.heap.size ≠ w.heap.size := by have := RB.lt; omega
  have l2 : W0.heap.size + 1 ≠ w.heap.size := by have := RB.lt; omega
  have l3 : w.heap.size ≠ W0.heap.size := by have := RB.lt; omega
  have l4 : w.heap.size ≠ W0.heap.size + 1 := by have := RB.lt; omega
  have RBF := RB.fill (.bool n) (.slice (some ⟨W0.heap.size, 0, none⟩) 1 1) (.slice (some ⟨W0.heap.size + 1, 0, none⟩) 1 1)
  have hBF := below_three hb0 (Nat.le_refl _) (.bool n) (.slice (some ⟨W0.heap.size, 0, none⟩) 1 1) (.slice (some ⟨W0.heap.size + 1, 0, none⟩) 1 1)
  have hV : (((W0.setCell ⟨w.heap.size, 0, none⟩ (.bool n)).setCell ⟨w.heap.size, 1, none⟩ (.slice (some ⟨W0.heap.size, 0, none⟩) 1 1)).setCell ⟨w.heap.size, 2, none⟩ (.slice (some ⟨W0.heap.size + 1, 0, none⟩) 1 1)).heap.size = W0.heap.size := by simp [World.setCell]
  obtain ⟨r0, r1, r2, f0, f1, f2, _, _⟩ := id RB
  go_wp2
  generalize ((W0.setCell ⟨w.heap.size, 0, none⟩ (.bool n)).setCell ⟨w.heap.size, 1, none⟩ (.slice (some ⟨W0.heap.size, 0, none⟩) 1 1)).setCell ⟨w.heap.size, 2, none⟩ (.slice (some ⟨W0.heap.size + 1, 0, none⟩) 1 1) = V at *
  have LA := (oneLS V a 46).made (.cells #[.int .u64 ((b : Nat) : Int)] 46)
  have LB := oneLS (V.alloc (.cells #[.int .u64 ((a : Nat) : Int)] 46)) b 46
  have hs : (V.alloc (.cells #[.int .u64 ((a : Nat) : Int)] 46)).heap.size = W0.heap.size + 1 := by simp [hV]
  rw [hs] at LB
  rw [hV] at LA
  have hbb := (hBF.alloc hBF.size (.cells #[.int .u64 ((a : Nat) : Int)] 46)).alloc (by rw [hs]; have := hb0.size; omega) (.cells #[.int .u64 ((b : Nat) : Int)] 46)
  have RB2 := (RBF.alloc (.cells #[.int .u64 ((a : Nat) : Int)] 46)).alloc (.cells #[.int .u64 ((b : Nat) : Int)] 46)
  obtain ⟨s0, s1, s2, t0, t1, t2, _, _⟩ := id RB2
  exact bodyPost_ret (v := .agg #[.bool n, .slice (some ⟨W0.heap.size, 0, none⟩) 1 1, .slice (some ⟨W0.heap.size + 1, 0, none⟩) 1 1]) (by simp only [results, Tryz.results32]; simp [go_sem, s0, s1, s2]) rfl ⟨some ⟨W0.heap.size, 0, none⟩, 1, some ⟨W0.heap.size + 1, 0, none⟩, 1, rfl, LA, LB, hbb⟩
theorem lo_inj {a b : Nat} : decide (lo a = lo b) = (a == b) := by
  rw [Bool.eq_iff_iff, decide_eq_true_iff, beq_iff_eq]
  constructor
  · intro h
    rw [← vl_lo a, h, vl_lo]
  · rintro rfl
    rfl
def smB (n1 n2 : Bool) (N1 D1 N2 D2 : Nat) : Bool := (n1 == n2) && (N1 == N2) && (D1 == D2)
set_option maxHeartbeats 1000000 in
theorem sameR_any (n1 n2 : Bool) (N1 D1 N2 D2 : Nat) (ao1 bo1 ao2 bo2 : Option Addr) (ac1 bc1 ac2 bc2 : Nat) (w : World) (a1 : LRow w ao1 (lo N1)) (b1 : LRow w bo1 (lo D1)) (a2 : LRow w ao2 (lo N2)) (b2 : LRow w bo2 (lo D2)) (k1 : nl N1 ≤ 256) (k2 : nl D1 ≤ 256) :
    Calls Tryz.prog 44 #[.agg #[.bool n1, .slice ao1 (nl N1) ac1, .slice bo1 (nl D1) bc1], .agg #[.bool n2, .slice ao2 (nl N2) ac2, .slice bo2 (nl D2) bc2]] w fun e w' => e = .returned (.bool (smB n1 n2 N1 D1 N2 D2)) ∧ Below w.heap.size w w' := by
  have AB := (B3q.new w (.bool n1) (.slice ao1 (nl N1) ac1) (.slice bo1 (nl D1) bc1) 24).alloc (.cells #[.bool n2, .slice ao2 (nl N2) ac2, .slice bo2 (nl D2) bc2] 24)
  have BB := B3q.new (w.alloc (.cells #[.bool n1, .slice ao1 (nl N1) ac1, .slice bo1 (nl D1) bc1] 24)) (.bool n2) (.slice ao2 (nl N2) ac2) (.slice bo2 (nl D2) bc2) 24
  have hs1 : (w.alloc (.cells #[.bool n1, .slice ao1 (nl N1) ac1, .slice bo1 (nl D1) bc1] 24)).heap.size = w.heap.size + 1 := by simp
  rw [hs1] at BB
  have hb0 : Below w.heap.size w ((w.alloc (.cells #[.bool n1, .slice ao1 (nl N1) ac1, .slice bo1 (nl D1) bc1] 24)).alloc (.cells #[.bool n2, .slice ao2 (nl N2) ac2, .slice bo2 (nl D2) bc2] 24)) := ((Below.refl _ _).alloc (Nat.le_refl _) _).alloc (by rw [hs1]; omega) _
  have c1 := sameLimbs_any (lo N1) (lo N2) ao1 ao2 ac1 ac2 _ (a1.below hb0) (a2.below hb0) (by rw [lo_length]; omega)
  rw [lo_inj, lo_length, lo_length] at c1
  go_enter Tryz.func44, Tryz.ntmps44
  go_upto_region 1 with fail
  generalize (w.alloc (.cells #[.bool n1, .slice ao1 (nl N1) ac1, .slice bo1 (nl D1) bc1] 24)).alloc (.cells #[.bool n2, .slice ao2 (nl N2) ac2, .slice bo2 (nl D2) bc2] 24) = W0 at *
  have c2 := fun w' (h : Below W0.heap.size W0 w') => sameLimbs_any (lo D1) (lo D2) bo1 bo2 bc1 bc2 w' ((b1.below hb0).below h) ((b2.below hb0).below h) (by rw [lo_length]; omega)
  simp only [lo_inj, lo_length] at c2
  obtain ⟨x0, x1, x2, _, _, _, _, _⟩ := id AB
  obtain ⟨y0, y1, y2, _, _, _, _, _⟩ := id BB
  clear hs1 a1 b1 a2 b2
  cases hn : (n1 == n2)
  · go_wp2
    go_ret
    exact ⟨retB (by unfold smB; rw [hn]; rfl), hb0⟩
  · cases hN : (N1 == N2)
    · rw [hN] at c1
      go_wp2_with (go_at_call 83; refine c1.mono ?_; rintro e w2 ⟨rfl, b2⟩)
      go_ret
      exact ⟨retB (by unfold smB; rw [hn, hN]; rfl), hb0.trans (b2.mono hb0.size)⟩
    · rw [hN] at c1
      cases hD : (D1 == D2)
      all_goals
        simp only [hD] at c2
        go_wp2_with (first | (go_at_call 83; refine (c2 _ b2).mono ?_; rintro e w3 ⟨rfl, b3⟩) | (go_at_call 83; refine c1.mono ?_; rintro e w2 ⟨rfl, b2⟩; have AB2 := AB.below b2; have BB2 := BB.below b2; obtain ⟨x0', x1', x2', _, _, _, _, _⟩ := id AB2; obtain ⟨y0', y1', y2', _, _, _, _, _⟩ := id BB2))
        go_ret
        exact ⟨retB (by unfold smB; rw [hn, hN, hD]; rfl), hb0.trans ((b2.trans (b3.mono b2.size)).mono hb0.size)⟩
/-- The right ratio that stands for any one. -/
def knQ (neg : Bool) (N D : Nat) : Bool × Nat × Nat := match (nmA neg N D).1 with | some r => r | none => (false, 1, 1)
theorem knQ_right (neg : Bool) (N D : Nat) : RqB (knQ neg N D).1 (knQ neg N D).2.1 (knQ neg N D).2.2 := by
  obtain ⟨o, er, h⟩ : ∃ o er, nmA neg N D = (o, er) := ⟨_, _, rfl⟩
  unfold knQ
  rw [h]
  cases o with
  | none => exact (show RqB false 1 1 from ⟨by decide, by decide, by decide, by decide, fun _ => rfl⟩)
  | some r =>
    obtain ⟨a, b, c⟩ := r
    exact nmA_right h
end Go.Proofs.YtnclddfljghebaaGreatDoor

namespace Go.Proofs.YtnclddfljghebaaGreatDoor
open Go.RowKit

theorem aw_add : nmA (smQ false false (1 * 6) (1 * 3)).1 (smQ false false (1 * 6) (1 * 3)).2 (3 * 6) = (some (false, 1, 2), 3) := by kernel_rfl
theorem aw_rnd : rnR false 1 3 2 = 4599676419421066582 := by kernel_rfl
theorem aw_3 : RqB false 1 3 := ⟨by decide, by decide, by decide, by decide, fun _ => rfl⟩
theorem aw_6 : RqB false 1 6 := ⟨by decide, by decide, by decide, by decide, fun _ => rfl⟩
set_option maxHeartbeats 400000 in
theorem is_any (n1 n2 : Bool) (N1 D1 N2 D2 : Nat) (ao1 bo1 ao2 bo2 : Option Addr) (ac1 bc1 ac2 bc2 : Nat) (w : World) (a1 : LRow w ao1 (lo N1)) (b1 : LRow w bo1 (lo D1)) (a2 : LRow w ao2 (lo N2)) (b2 : LRow w bo2 (lo D2)) (k1 : nl N1 ≤ 256) (k2 : nl D1 ≤ 256) :
    Calls Tryz.prog 10 #[.agg #[.bool n1, .slice ao1 (nl N1) ac1, .slice bo1 (nl D1) bc1], .int .i64 0, .agg #[.bool n2, .slice ao2 (nl N2) ac2, .slice bo2 (nl D2) bc2], .int .i64 0] w fun e w' => e = .returned (.bool (smB n1 n2 N1 D1 N2 D2)) ∧ Below w.heap.size w w' := by
  have AB := (B3q.new w (.bool n1) (.slice ao1 (nl N1) ac1) (.slice bo1 (nl D1) bc1) 24).alloc (.cells #[.bool n2, .slice ao2 (nl N2) ac2, .slice bo2 (nl D2) bc2] 24)
  have BB := B3q.new (w.alloc (.cells #[.bool n1, .slice ao1 (nl N1) ac1, .slice bo1 (nl D1) bc1] 24)) (.bool n2) (.slice ao2 (nl N2) ac2) (.slice bo2 (nl D2) bc2) 24
  have hs1 : (w.alloc (.cells #[.bool n1, .slice ao1 (nl N1) ac1, .slice bo1 (nl D1) bc1] 24)).heap.size = w.heap.size + 1 := by simp
  rw [hs1] at BB
  have hb0 : Below w.heap.size w ((w.alloc (.cells #[.bool n1, .slice ao1 (nl N1) ac1, .slice bo1 (nl D1) bc1] 24)).alloc (.cells #[.bool n2, .slice ao2 (nl N2) ac2, .slice bo2 (nl D2) bc2] 24)) := ((Below.refl _ _).alloc (Nat.le_refl _) _).alloc (by rw [hs1]; omega) _
  have c1 := sameR_any n1 n2 N1 D1 N2 D2 ao1 bo1 ao2 bo2 ac1 bc1 ac2 bc2 _ (a1.below hb0) (b1.below hb0) (a2.below hb0) (b2.below hb0) k1 k2
  generalize smB n1 n2 N1 D1 N2 D2 = sb at *
  go_enter Tryz.func10, Tryz.ntmps10
  go_upto_region 1 with fail
  generalize (w.alloc (.cells #[.bool n1, .slice ao1 (nl N1) ac1, .slice bo1 (nl D1) bc1] 24)).alloc (.cells #[.bool n2, .slice ao2 (nl N2) ac2, .slice bo2 (nl D2) bc2] 24) = W0 at *
  obtain ⟨x0, x1, x2, _, _, _, _, _⟩ := id AB
  obtain ⟨y0, y1, y2, _, _, _, _, _⟩ := id BB
  go_wp2_with (go_at_call 44; refine c1.mono ?_; rintro e w2 ⟨rfl, b2⟩)
  go_ret
  exact ⟨rfl, hb0.trans (b2.mono hb0.size)⟩
set_option maxRecDepth 100000 in
set_option maxHeartbeats 1000000 in
theorem rawake_any (w : World) (hT : TabW w) : Calls Tryz.prog 6 #[] w fun e w' => e = .returned (.bool true) ∧ Below w.heap.size w w' := by
  have s13 := fun w' => small_any false 1 3 (by omega) (by omega) (by omega) (by omega) w'
  have s16 := fun w' => small_any false 1 6 (by omega) (by omega) (by omega) (by omega) w'
  have s12 := fun w' => small_any false 1 2 (by omega) (by omega) (by omega) (by omega) w'
  have cA := fun ao1 bo1 ao2 bo2 ac1 bc1 ac2 bc2 w' a1 b1 a2 b2 hT => raddr_any false false 1 3 1 6 ao1 bo1 ao2 bo2 ac1 bc1 ac2 bc2 w' a1 b1 a2 b2 hT aw_3 aw_6
  simp only [aw_add] at cA
  unfold GaveR at cA
  have cR := fun ao bo ac bc w' h1 h2 hT => rround_any false 1 3 ao bo ac bc 2 w' h1 h2 hT aw_3
  simp only [aw_rnd] at cR
  have cI := fun ao1 bo1 ao2 bo2 ac1 bc1 ac2 bc2 w' a1 b1 a2 b2 => is_any false false 1 2 1 2 ao1 bo1 ao2 bo2 ac1 bc1 ac2 bc2 w' a1 b1 a2 b2 (by decide) (by decide)
  have eI : smB false false 1 2 1 2 = true := rfl
  simp only [eI] at cI
  unfold GaveI at s13 s16 s12
  obtain ⟨l1, h1⟩ : ∃ l, nl 1 = l := ⟨_, rfl⟩
  obtain ⟨l3, h3⟩ : ∃ l, nl 3 = l := ⟨_, rfl⟩
  obtain ⟨l6, h6⟩ : ∃ l, nl 6 = l := ⟨_, rfl⟩
  obtain ⟨l2, h2⟩ : ∃ l, nl 2 = l := ⟨_, rfl⟩
  obtain ⟨m1, g1⟩ : ∃ l, lo 1 = l := ⟨_, rfl⟩
  obtain ⟨m3, g3⟩ : ∃ l, lo 3 = l := ⟨_, rfl⟩
  obtain ⟨m6, g6⟩ : ∃ l, lo 6 = l := ⟨_, rfl⟩
  obtain ⟨m2, g2⟩ : ∃ l, lo 2 = l := ⟨_, rfl⟩
  simp only [h1, h2, h3, h6, g1, g2, g3, g6] at s13 s16 s12 cA cR cI
  clear h1 h2 h3 h6 g1 g2 g3 g6 eI
  go_enter Tryz.func6, Tryz.ntmps6
  go_upto_region 2 with (first
    | (go_at_call 20; refine (cA _ _ _ _ _ _ _ _ _ (x3.below b2) (y3.below b2) x6 y6 (tabW_below hT q2)).mono ?_; rintro e w3 ⟨ao3, ac3, bo3, bc3, rfl, xr, yr, b3⟩; have q3 := q2.trans (b3.mono q2.size))
    | (go_at_call_of 32 (Value.int .u64 6); refine (s16 _).mono ?_; rintro e w2 ⟨ao2, ac2, bo2, bc2, rfl, x6, y6, b2⟩; have q2 := q1.trans (b2.mono q1.size))
    | (go_at_call_of 32 (Value.int .u64 3); refine (s13 _).mono ?_; rintro e w1 ⟨ao1, ac1, bo1, bc1, rfl, x3, y3, q1⟩))
  have XB := B3q.new w3 (.bool false) (.slice ao3 l1 ac3) (.slice bo3 l2 bc3) 24
  have q4 := q3.alloc q3.size (.cells #[.bool false, .slice ao3 l1 ac3, .slice bo3 l2 bc3] 24)
  have xr4 := xr.made (.cells #[.bool false, .slice ao3 l1 ac3, .slice bo3 l2 bc3] 24)
  have yr4 := yr.made (.cells #[.bool false, .slice ao3 l1 ac3, .slice bo3 l2 bc3] 24)
  generalize w3.alloc (.cells #[.bool false, .slice ao3 l1 ac3, .slice bo3 l2 bc3] 24) = W4 at *
  clear cA s16 x3 y3 x6 y6 xr yr
  generalize w3.heap.size = g at *
  go_upto_region 3 with (first
    | (go_at_call 33; refine (cR _ _ _ _ _ x5 y5 (tabW_below hT q5)).mono ?_; rintro e w6 ⟨rfl, hb6⟩; have b6 := b5.trans (hb6.mono b5.size); have q6 := q5.trans (hb6.mono q5.size))
    | (go_at_call 32; refine (s13 _).mono ?_; rintro e w5 ⟨ao5, ac5, bo5, bc5, rfl, x5, y5, b5⟩; have q5 := q4.trans (b5.mono q4.size)))
  have XB6 := XB.below b6
  have xr6 := xr4.below b6
  have yr6 := yr4.below b6
  clear XB xr4 yr4 b6 hb6 b5 s13 cR x5 y5 q4 q5
  obtain ⟨z0, z1, z2, _, _, _, _, glt⟩ := id XB6
  have HC : ∀ w', Below w6.heap.size w6 w' → w'.cell? ⟨g, 0, none⟩ = some (.bool false) ∧ w'.cell? ⟨g, 1, none⟩ = some (.slice ao3 l1 ac3) ∧ w'.cell? ⟨g, 2, none⟩ = some (.slice bo3 l2 bc3) := fun w' h => ⟨(XB6.below h).c0, (XB6.below h).c1, (XB6.below h).c2⟩
  have b6d := (Below.refl w6.heap.size w6).drew
  have m0 := HC _ b6d
  have s12d := s12 w6.drew
  have hfe : (FloatKind.f64.format.order 4599676419421066582 4599676419421066582 == some .eq) = true := by kernel_rfl
  go_region_held3 (fun w' => w'.cell? ⟨g, 0, none⟩ = some (.bool false) ∧ w'.cell? ⟨g, 1, none⟩ = some (.slice ao3 l1 ac3) ∧ w'.cell? ⟨g, 2, none⟩ = some (.slice bo3 l2 bc3)) (go_keep)
    (first
      | (go_at_call 10; refine (cI _ _ _ _ _ _ _ _ _ (xr6.1.below b7) (yr6.1.below b7) x7.1 y7.1).mono ?_; rintro e w8 ⟨rfl, hb8⟩; have b8 := b7.trans (hb8.mono b7.size); have k8 := HC _ b8)
      | (go_at_call 32; refine s12d.mono ?_; rintro e w7 ⟨ao7, ac7, bo7, bc7, rfl, x7, y7, hb7⟩; have b7 : Below w6.heap.size w6 w7 := b6d.trans hb7; have k7 := HC _ b7))
  go_wp2
  go_ret
  exact ⟨rfl, q6.trans (b8.mono q6.size)⟩
end Go.Proofs.YtnclddfljghebaaGreatDoor
