/- What onward answers. -/
import Derived.Test.YtmcnnnmlacpppaaDoorRtE
namespace Go.Proofs.YtmcnnnmlacpppaaDoor
open Go.RowKit

/-- Two later numbers of Euclid's row. -/
def GaveOn (w : World) (A B : Nat) (e : Ending) (w' : World) : Prop :=
  ∃ (A' B' : Nat) (ao bo : Option Addr) (cap bcap : Nat), e = .returned (.tuple #[.slice ao (nl A') cap, .slice bo (nl B') bcap]) ∧ LS w' ao cap (lo A') ∧ LS w' bo bcap (lo B') ∧ B' < B ∧ B' ≤ A' ∧ A' ≤ A ∧ Nat.gcd A' B' = Nat.gcd A B ∧ Below w.heap.size w w'
theorem blW_mono {a b : Nat} (h : a ≤ b) : bl a ≤ bl b := bl_le_iff.2 (Nat.lt_of_le_of_lt h (bl_le_iff.1 (Nat.le_refl _)))
theorem nl_mono {a b : Nat} (h : a ≤ b) : nl a ≤ nl b := by have := blW_mono h; unfold nl; omega
theorem nlR_pos {z : Nat} (h : z ≠ 0) : 0 < nl z := by
  have := bl_pos h
  unfold nl
  omega
theorem lo_one {a : Nat} (h0 : a ≠ 0) (h : a < 18446744073709551616) : nl a = 1 ∧ lo a = [a] := by
  have hn : nl a = 1 := by
    have h1 := bl_pos h0
    have h2 : bl a ≤ 64 := bl_le_iff.2 (by omega)
    unfold nl
    omega
  refine ⟨hn, ?_⟩
  unfold lo
  rw [hn]
  simp [tl]
  omega
/-- Of two numbers' heads: what stands below them, and that they fit. -/
theorem heads {A B l : Nat} (hB : B ≤ A) (h2 : 62 ≤ bl A) (hl : l = bl A - 62) :
    1 ≤ A / 2 ^ l ∧ A / 2 ^ l < 4611686018427387904 ∧ B / 2 ^ l ≤ A / 2 ^ l ∧ A = A / 2 ^ l * 2 ^ l + A % 2 ^ l ∧ B = B / 2 ^ l * 2 ^ l + B % 2 ^ l ∧ A % 2 ^ l < 2 ^ l ∧ B % 2 ^ l < 2 ^ l := by
  have hP := Nat.two_pow_pos l
  have h0 : A ≠ 0 := fun h => by subst h; simp [bl_zero] at h2
  obtain ⟨a, b, c⟩ := bl_spec h0
  refine ⟨?_, ?_, Nat.div_le_div_right hB, by have := Nat.div_add_mod A (2 ^ l); rw [Nat.mul_comm]; omega, by have := Nat.div_add_mod B (2 ^ l); rw [Nat.mul_comm]; omega, Nat.mod_lt _ hP, Nat.mod_lt _ hP⟩
  · refine (Nat.le_div_iff_mul_le hP).2 ?_
    rw [Nat.one_mul]
    exact Nat.le_trans (Nat.pow_le_pow_right (by omega) (by omega)) a
  · refine Nat.div_lt_of_lt_mul ?_
    rw [show 4611686018427387904 = 2 ^ 62 from rfl, ← Nat.pow_add, show l + 62 = bl A by omega]
    exact b
/-- What is mixed, as whole numbers. -/
theorem mix_out {A B l : Nat} {x y a0 a1 b0 b1 : Int} (hB : B ≤ A) (h2 : 62 ≤ bl A) (hl : l = bl A - 62) (h : FoS (A / 2 ^ l : Nat) (B / 2 ^ l : Nat) x y a0 a1 b0 b1) (hn : ¬ (b0 = 0 ∧ b1 = 1)) :
    ∃ X Y : Nat, a0 * (A : Int) + a1 * (B : Int) = (X : Int) ∧ b0 * (A : Int) + b1 * (B : Int) = (Y : Int) ∧ Y < X ∧ X ≤ B ∧ Nat.gcd X Y = Nat.gcd A B := by
  obtain ⟨g1, g2, g3, e1, e2, m1, m2⟩ := heads hB h2 hl
  generalize A / 2 ^ l = P at *
  generalize B / 2 ^ l = Q at *
  generalize A % 2 ^ l = r at *
  generalize B % 2 ^ l = s at *
  generalize 2 ^ l = T at *
  have E1 : (A : Int) = (P : Int) * T + r := by rw [e1]; push_cast; rfl
  have E2 : (B : Int) = (Q : Int) * T + s := by rw [e2]; push_cast; rfl
  have hm := h.mixed (P := (T : Int)) (r := (r : Int)) (s := (s : Int)) (by omega) (by omega) (by omega) (by omega)
  have hd : ∀ P' r' s' : Int, 0 ≤ r' → r' < P' → 0 ≤ s' → s' < P' → b0 * ((P : Int) * P' + r') + b1 * ((Q : Int) * P' + s') < a0 * ((P : Int) * P' + r') + a1 * ((Q : Int) * P' + s') ∧ a0 * ((P : Int) * P' + r') + a1 * ((Q : Int) * P' + s') ≤ (Q : Int) * P' + s' := by
    rcases h.de with hh | hh
    · exact absurd ⟨hh.2.2.1, hh.2.2.2⟩ hn
    · exact hh
  have hd := hd (T : Int) (r : Int) (s : Int) (by omega) (by omega) (by omega) (by omega)
  rw [← E1, ← E2] at hm hd
  have hg := gcd_mix (a := (A : Int)) (b := (B : Int)) h.det
  obtain ⟨X, hX⟩ : ∃ X : Nat, a0 * (A : Int) + a1 * (B : Int) = (X : Int) := ⟨(a0 * (A : Int) + a1 * (B : Int)).toNat, by omega⟩
  obtain ⟨Y, hY⟩ : ∃ Y : Nat, b0 * (A : Int) + b1 * (B : Int) = (Y : Int) := ⟨(b0 * (A : Int) + b1 * (B : Int)).toNat, by omega⟩
  rw [hX, hY] at hg hd
  exact ⟨X, Y, hX, hY, by omega, by omega, hg⟩
set_option maxRecDepth 100000 in
set_option maxHeartbeats 1000000 in
theorem onward_any (A B : Nat) (ao bo : Option Addr) (cap bcap : Nat) (w : World) (hr : LS w ao cap (lo A)) (hs : LS w bo bcap (lo B)) (hB0 : 0 < B) (hBA : B ≤ A) (hn : nl A ≤ 40000) :
    Calls Tryd.prog 64 #[.slice ao (nl A) cap, .slice bo (nl B) bcap] w (GaveOn w A B) := by
  have hA := lo_length A
  have hB := lo_length B
  have nB := nl_mono hBA
  have pB := nlR_pos (show B ≠ 0 by omega)
  by_cases h1 : A < 18446744073709551616
  · obtain ⟨q1, q2⟩ := lo_one (show A ≠ 0 by omega) h1
    obtain ⟨q3, q4⟩ := lo_one (show B ≠ 0 by omega) (show B < 18446744073709551616 by omega)
    have c1 := hr.1
    have c2 := hs.1
    rw [q2] at c1
    rw [q4] at c2
    rcases c1 with c1 | ⟨b, o, rfl, c1⟩
    · simp at c1
    rcases c2 with c2 | ⟨b', o', rfl, c2⟩
    · simp at c2
    have g1 := c1 0 (by simp)
    have g2 := c2 0 (by simp)
    simp only [List.getD_cons_zero, Nat.add_zero] at g1 g2
    rw [q1, q3]
    have cc := fun w' => comLimb_any A B h1 (by omega) w'
    have hG : 0 < Nat.gcd A B := Nat.gcd_pos_of_pos_right _ hB0
    have hG2 : Nat.gcd A B ≤ A := Nat.le_of_dvd (by omega) (Nat.gcd_dvd_left A B)
    obtain ⟨q5, q6⟩ := lo_one (show Nat.gcd A B ≠ 0 by omega) (by omega)
    have hb1 := World.block_lt_of_cell? w _ g1
    have hb2 := World.block_lt_of_cell? w _ g2
    obtain ⟨G, eG⟩ : ∃ G, Nat.gcd A B = G := ⟨_, rfl⟩
    rw [eG] at cc hG hG2 q5 q6
    have HEG : Hid _ := eG
    clear c1 c2 q1 q2 q3 q4 hA hB nB pB eG hr hs hn
    go_enter Tryd.func64, Tryd.ntmps64
    go_upto_region 2 with fail
    go_region_held3 (fun w' => w'.cell? ⟨b, o, none⟩ = some (.int .u64 A) ∧ w'.cell? ⟨b', o', none⟩ = some (.int .u64 B)) (go_keep)
      (first | (go_at_call 80; refine (cc _).mono ?_; rintro e w2 ⟨rfl, hb⟩; have k1 : w2.cell? ⟨b, o, none⟩ = some (.int .u64 A) := (hb.cell (p := ⟨b, o, none⟩) hb1).trans g1; have k2 : w2.cell? ⟨b', o', none⟩ = some (.int .u64 B) := (hb.cell (p := ⟨b', o', none⟩) hb2).trans g2))
    have hW : LS (w2.alloc (.cells #[.int .u64 ((G : Nat) : Int)] 22)) (some ⟨w2.heap.size, 0, none⟩) 1 (lo G) := by
      rw [q6]
      exact ⟨Or.inr ⟨w2.heap.size, 0, rfl, fun j hj => by
        have : j = 0 := by simp at hj; omega
        subst this
        go_simp⟩, by simp, fun e => by cases e⟩
    have hZ : ∀ W : World, LS W none 0 (lo 0) := fun W => ⟨Or.inl rfl, Nat.le_refl _, fun _ => rfl⟩
    have hbb : Below w.heap.size w (w2.alloc (.cells #[.int .u64 ((G : Nat) : Int)] 22)) := (((Below.refl w.heap.size w).drew).trans hb).alloc hb.size _
    go_wp2
    go_ret2
    refine ⟨G, 0, _, _, _, _, ?_, hW, hZ _, hB0, by omega, hG2, by rw [Nat.gcd_zero_right, HEG.out], hbb⟩
    rw [q5]
    rfl
  · have hb65 : 65 ≤ bl A := by
      refine Nat.lt_of_not_le fun hle => h1 ?_
      have := bl_le_iff.1 (show bl A ≤ 64 by omega)
      rw [p64] at this
      exact this
    have hn2 : 2 ≤ nl A := by unfold nl; omega
    obtain ⟨l, el⟩ : ∃ l, bl A - 62 = l := ⟨_, rfl⟩
    obtain ⟨g1, g2, g3, e1, e2, m1, m2⟩ := heads hBA (show 62 ≤ bl A by omega) el.symm
    have hbl : bl A ≤ 64 * nl A := by unfold nl; omega
    have cl := bitLen_any (lo A) ao cap w hr.1 (lo_lm A) (by omega)
    have cA := window_any (lo A) ao cap (l : Int) w hr.1 (lo_lm A) (by omega) (by omega)
    have cB := window_any (lo B) bo bcap (l : Int) w hs.1 (lo_lm B) (by omega) (by omega)
    rw [hA, vl_lo] at cl cA
    rw [hB, vl_lo] at cB
    have wA : win A (l : Int) = A / 2 ^ l := by unfold win shr; rw [if_pos (by omega), Int.toNat_natCast]; exact Nat.mod_eq_of_lt (by omega)
    have wB : win B (l : Int) = B / 2 ^ l := by unfold win shr; rw [if_pos (by omega), Int.toNat_natCast]; exact Nat.mod_eq_of_lt (by omega)
    rw [wA] at cA
    rw [wB] at cB
    have hmo := fun {x y a0 a1 b0 b1 : Int} => mix_out (x := x) (y := y) (a0 := a0) (a1 := a1) (b0 := b0) (b1 := b1) hBA (show 62 ≤ bl A by omega) el.symm
    have cF := foresee_any ((A / 2 ^ l : Nat) : Int) ((B / 2 ^ l : Nat) : Int) (by omega) (by omega) (by omega) (by omega) w
    obtain ⟨PA, ePA⟩ : ∃ PA, A / 2 ^ l = PA := ⟨_, rfl⟩
    obtain ⟨PB, ePB⟩ : ∃ PB, B / 2 ^ l = PB := ⟨_, rfl⟩
    rw [ePA] at cA g1 g2 g3
    rw [ePB] at cB g3
    unfold GaveF4 at cF
    simp only [ePA, ePB] at cF hmo
    have HMO : Hid _ := @hmo
    have HM2 : Hid _ := hn2
    obtain ⟨bA, ebA⟩ : ∃ bA, bl A = bA := ⟨_, rfl⟩
    rw [ebA] at cl el hb65 hbl
    have w1 : (bA : Int) - 62 = (l : Int) := by omega
    have lA : bA ≤ 2560000 := by omega
    have t1 : ((nl A : Int) == 1) = false := by simp; omega
    have v1 : IntKind.i64.wrap (PA : Int) = PA := wrapI_id (by omega) (by omega)
    have v2 : IntKind.i64.wrap (PB : Int) = PB := wrapI_id (by omega) (by omega)
    have cD := ldiv_any (lo A) (lo B) ao bo cap bcap
    rw [hA, hB, vl_lo, vl_lo] at cD
    have cM := mixed_any (lo A) (lo B) ao bo cap bcap
    rw [hA, hB, vl_lo, vl_lo] at cM
    clear hmo wA wB m1 m2 e1 e2 ePA ePB ebA el
    go_enter Tryd.func64, Tryd.ntmps64
    go_upto_region 5 with (first | (go_at_call 44; refine cl.mono ?_; rintro e w' ⟨rfl, hww⟩; subst w') | (go_at_call_of 59 (Value.slice ao (nl A) cap); refine cA.mono ?_; rintro e w' ⟨rfl, hww⟩; subst w') | (go_at_call_of 59 (Value.slice bo (nl B) bcap); refine cB.mono ?_; rintro e w' ⟨rfl, hww⟩; subst w') | (go_at_call 81; refine cF.mono ?_; rintro e w2 ⟨x, y, a0, a1, b0, b1, rfl, hF, hb2⟩))
    have M0 : B4 (w2.alloc (.cells #[.int .i64 a0, .int .i64 a1, .int .i64 b0, .int .i64 b1] 98)) w2.heap.size (.int .i64 a0) (.int .i64 a1) (.int .i64 b0) (.int .i64 b1) := ⟨by go_simp, by go_simp, by go_simp, by go_simp, by go_simp, by go_simp, by go_simp, by go_simp⟩
    have hb3 : Below w.heap.size w (w2.alloc (.cells #[.int .i64 a0, .int .i64 a1, .int .i64 b0, .int .i64 b1] 98)) := hb2.alloc hb2.size _
    have hgs : w2.heap.size < (w2.alloc (.cells #[.int .i64 a0, .int .i64 a1, .int .i64 b0, .int .i64 b1] 98)).heap.size := by simp
    have hgl : w.heap.size ≤ w2.heap.size := hb2.size
    generalize w2.alloc (.cells #[.int .i64 a0, .int .i64 a1, .int .i64 b0, .int .i64 b1] 98) = W3 at *
    generalize w2.heap.size = g at *
    obtain ⟨c0, c1, c2, c3, _, _, _, _⟩ := id M0
    have heq := eqin_two b0 b1 0 1
    have hgd := guard_two
    have lB : ∀ z, z ≤ A → nl z ≤ 40000 := fun z hz => Nat.le_trans (nl_mono hz) hn
    by_cases hc : b0 = 0 ∧ b1 = 1
    · obtain ⟨rfl, rfl⟩ := hc
      have cd := cD W3 (hr.1.below hb3) (hs.below hb3) (lo_lm A) (lo_lm B) (by omega) (by omega) (by omega)
      have hml : A % B < B := Nat.mod_lt _ hB0
      have hgc : Nat.gcd B (A % B) = Nat.gcd A B := by rw [Nat.gcd_comm, ← Nat.gcd_rec, Nat.gcd_comm]
      have HGC : Hid _ := hgc
      obtain ⟨r, er⟩ : ∃ r, A % B = r := ⟨_, rfl⟩
      rw [er] at cd hml HGC
      generalize A / B = q at cd
      clear cD cM cl cA cB cF HMO hF hgc er
      go_wp2_with (go_at_call 46; refine cd.mono ?_; rintro e w4 ⟨qo, qc, ro, rc, rfl, hq, hR, hb4⟩)
      go_ret2
      exact ⟨B, r, bo, ro, bcap, rc, rfl, (hs.below hb3).below hb4, hR, hml, by omega, hBA, HGC.out, hb3.trans (hb4.mono hb3.size)⟩
    · obtain ⟨X, Y, hX, hY, h3, h4, h5⟩ := HMO.out hF hc
      have t2 : (b0 == 0 && b1 == 1) = false := by
        simp only [Bool.and_eq_false_iff, beq_eq_false_iff_ne]
        by_cases hz : b0 = 0
        · exact Or.inr fun hh => hc ⟨hz, hh⟩
        · exact Or.inl hz
      have sg := hF.sg
      have ba := hF.ba
      have bb := hF.bb
      have m1 := fun w' (h : Below W3.heap.size W3 w') => cM a0 a1 w' ((hr.1.below hb3).below h) ((hs.1.below hb3).below h) (lo_lm A) (lo_lm B) (by omega) (by omega) (by omega) (by omega) (by omega) (by omega) (by omega) X hX (by omega)
      have m2 := fun w' (h : Below W3.heap.size W3 w') => cM b0 b1 w' ((hr.1.below hb3).below h) ((hs.1.below hb3).below h) (lo_lm A) (lo_lm B) (by omega) (by omega) (by omega) (by omega) (by omega) (by omega) (by omega) Y hY (by omega)
      have HX : Hid _ := hX
      have HY : Hid _ := hY
      have H5 : Hid _ := h5
      clear cD cM cl cA cB cF HMO hF hX hY h5 sg ba bb
      have HC : ∀ w', Below W3.heap.size W3 w' → w'.cell? ⟨g, 0, none⟩ = some (.int .i64 a0) ∧ w'.cell? ⟨g, 1, none⟩ = some (.int .i64 a1) ∧ w'.cell? ⟨g, 2, none⟩ = some (.int .i64 b0) ∧ w'.cell? ⟨g, 3, none⟩ = some (.int .i64 b1) := fun w' h => ⟨(h.cell (p := ⟨g, 0, none⟩) hgs).trans c0, (h.cell (p := ⟨g, 1, none⟩) hgs).trans c1, (h.cell (p := ⟨g, 2, none⟩) hgs).trans c2, (h.cell (p := ⟨g, 3, none⟩) hgs).trans c3⟩
      have m1d := m1 W3.drew ((Below.refl _ _).drew)
      go_upto_region 8 with fail
      go_region_held3 (fun w' => w'.cell? ⟨g, 0, none⟩ = some (.int .i64 a0) ∧ w'.cell? ⟨g, 1, none⟩ = some (.int .i64 a1) ∧ w'.cell? ⟨g, 2, none⟩ = some (.int .i64 b0) ∧ w'.cell? ⟨g, 3, none⟩ = some (.int .i64 b1)) (go_keep)
        (first
          | (go_at_call 82; refine (m2 _ b4).mono ?_; rintro e w5 ⟨yo, yc, rfl, hYl, hb5⟩; have b6 := b4.trans (hb5.mono b4.size); have k5 := HC _ b6)
          | (go_at_call 82; refine m1d.mono ?_; rintro e w4 ⟨xo, xc, rfl, hXl, hb4⟩; have b4 : Below W3.heap.size W3 w4 := ((Below.refl W3.heap.size W3).drew).trans hb4; have k4 := HC _ b4))
      have hb7 := hb3.trans (b6.mono hb3.size)
      have hXl2 := hXl.below hb5
      clear k5 b6 hb5 hXl
      go_wp2
      go_ret2
      exact ⟨X, Y, xo, yo, xc, yc, rfl, hXl2, hYl, by omega, by omega, by omega, H5.out, hb7⟩
end Go.Proofs.YtmcnnnmlacpppaaDoor
