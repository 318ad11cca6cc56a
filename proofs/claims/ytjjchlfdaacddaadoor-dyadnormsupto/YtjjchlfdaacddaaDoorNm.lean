/- What the reference's Norm answers: what the program's does. -/
import Derived.Test.YtjjchlfdaacddaaDoorZn
import Derived.Test.YtjjchlfdaacddaaDoorZo
namespace Go.Proofs.YtjjchlfdaacddaaDoor
open Go.RowKit

theorem bit_of (v n : Nat) : (lo v).getD (n / 64) 0 / 2 ^ (n % 64) % 2 = v / 2 ^ n % 2 := by
  have e : (2 : Nat) ^ n = 2 ^ (64 * (n / 64)) * 2 ^ (n % 64) := by rw [← Nat.pow_add]; congr 1; omega
  rw [lo_digit, e, ← Nat.div_div_eq_div_mul]
  generalize v / 2 ^ (64 * (n / 64)) = x
  obtain ⟨k, hk⟩ : ∃ k, 18446744073709551616 = 2 ^ (n % 64) * (2 * k) := ⟨2 ^ (63 - n % 64), by
    rw [← Nat.pow_succ', ← Nat.pow_add, show n % 64 + (63 - n % 64 + 1) = 64 by omega]⟩
  have hd := Nat.mod_add_div x 18446744073709551616
  have e3 : 18446744073709551616 * (x / 18446744073709551616) = 2 ^ (n % 64) * (2 * (k * (x / 18446744073709551616))) := by
    rw [← Nat.mul_assoc 2 k, ← Nat.mul_assoc, ← hk]
  have e2 : x / 2 ^ (n % 64) = x % 18446744073709551616 / 2 ^ (n % 64) + 2 * (k * (x / 18446744073709551616)) := by
    conv => lhs; rw [← hd]
    rw [e3]
    exact Nat.add_mul_div_left _ _ (Nat.two_pow_pos _)
  omega
theorem bit_low {v n : Nat} (h : n < tz v) : v / 2 ^ n % 2 = 0 := by
  have h0 : v ≠ 0 := fun e => by rw [e, tz_zero] at h; omega
  obtain ⟨m, hm⟩ := tz_spec h0
  obtain ⟨d, hd⟩ : ∃ d, tz v = n + (1 + d) := ⟨tz v - n - 1, by omega⟩
  rw [hm, hd, Nat.pow_add, Nat.mul_assoc, Nat.mul_div_cancel_left _ (Nat.two_pow_pos n), Nat.pow_add, Nat.pow_one, Nat.mul_assoc, Nat.mul_mod_right]
theorem bit_cast {x r : Nat} (h : x / 2 ^ r % 2 = 0) : ((x : Int) / 2 ^ r).tmod 2 = 0 := by
  have := congrArg (Nat.cast (R := Int)) h
  rw [Int.natCast_emod, Int.natCast_ediv, Int.natCast_pow] at this
  rw [Int.tmod_eq_emod_of_nonneg (Int.ediv_nonneg (by omega) (Int.le_of_lt (Int.pow_pos (by omega))))]
  exact this
theorem bit_cast1 {x r : Nat} (h : x / 2 ^ r % 2 = 1) : ((x : Int) / 2 ^ r).tmod 2 = 1 := by
  have := congrArg (Nat.cast (R := Int)) h
  rw [Int.natCast_emod, Int.natCast_ediv, Int.natCast_pow] at this
  rw [Int.tmod_eq_emod_of_nonneg (Int.ediv_nonneg (by omega) (Int.le_of_lt (Int.pow_pos (by omega))))]
  exact this
theorem bit_at {v : Nat} (h : v ≠ 0) : v / 2 ^ tz v % 2 = 1 := (tz_div h).1
theorem norm_case {d : Dy} (h0 : vl d.mag ≠ 0) : normD d = if 256 < (lo (vl d.mag / 2 ^ tz (vl d.mag))).length ∨ 65536 < d.exp ∨ d.exp < -65536 - (tz (vl d.mag) : Int) ∨ 65536 < d.exp + tz (vl d.mag) then (dy0, 3) else (⟨d.neg, lo (vl d.mag / 2 ^ tz (vl d.mag)), d.exp + tz (vl d.mag)⟩, 0) := by
  have e : (lo (vl d.mag / 2 ^ tz (vl d.mag))).length = (bl (vl d.mag) - tz (vl d.mag) + 63) / 64 := by rw [lo_length]; unfold nl; rw [bl_div]
  have ht := tz_lt_bl h0
  rw [e]
  by_cases hc : 16384 < bl (vl d.mag) - tz (vl d.mag) ∨ d.exp + tz (vl d.mag) < -65536 ∨ 65536 < d.exp + tz (vl d.mag)
  · rw [norm_long h0 hc, if_pos (by omega)]
  · rw [norm_fine h0 hc, if_neg (by omega)]
/-- A dyad handed back, its limbs a whole slice. -/
def GaveX (w : World) (r : Dy × Int) (e : Ending) (w' : World) : Prop :=
  ∃ ao cap, e = .returned (.tuple #[.agg #[.bool r.1.neg, .slice ao r.1.mag.length cap, .int .i64 r.1.exp], .int .i64 r.2]) ∧ NS w' ao cap r.1.mag ∧ Frs w.heap.size ao ∧ Below w.heap.size w w'
theorem GaveX.gave {w : World} {r : Dy × Int} {e : Ending} {w' : World} (h : GaveX w r e w') : Gave w r e w' := by
  obtain ⟨ao, cap, h1, h2, h3⟩ := h
  exact ⟨ao, cap, h1, h2.1, h3⟩
/-- A number handed back. -/
def GaveM (w : World) (d : Dy) (e : Ending) (w' : World) : Prop :=
  ∃ ao cap, e = .returned (.agg #[.bool d.neg, .slice ao d.mag.length cap, .int .i64 d.exp]) ∧ NS w' ao cap d.mag ∧ Frs w.heap.size ao ∧ Below w.heap.size w w'
theorem GaveM.gave {w : World} {d : Dy} {e : Ending} {w' : World} (h : GaveM w d e w') : GaveD w d e w' := by
  obtain ⟨ao, cap, h1, h2, h3⟩ := h
  exact ⟨ao, cap, h1, h2.1, h3⟩
set_option maxHeartbeats 4000000 in
set_option maxRecDepth 100000 in
theorem dnorm_any (d : Dy) (ao : Option Addr) (cap : Nat) (w : World) (hr : NS w ao cap d.mag) (hL : Lm d.mag) (hl : d.mag.length ≤ 4398046511104) (he1 : -9223372036854775808 ≤ d.exp) (he2 : d.exp ≤ 9223372036854775807) :
    Calls Tryd.prog 15 #[.agg #[.bool d.neg, .slice ao d.mag.length cap, .int .i64 d.exp]] w (GaveX w (normD d)) := by
  obtain ⟨neg, xs, ex⟩ := d
  simp only at *
  have hT := fun w' (h : NS w' ao cap xs) => natTrim_any xs ao cap w' h hL (by omega)
  have hlen := lo_len hL
  have hvl := vl_lt hL
  by_cases h0 : vl xs = 0
  · have HN : Hid (normD ⟨neg, xs, ex⟩ = (dy0, 0)) := norm_zero h0
    rw [h0, lo_zero] at hT
    go_enter Tryd.func15, Tryd.ntmps15
    go_wp2_with (go_at_call 48; refine (hT _ (hr.below (((Below.refl _ _).alloc (Nat.le_refl _) _).alloc (by simp) _))).mono ?_; rintro e w1 ⟨ao1, cap1, rfl, h1, f1, b1⟩; obtain ⟨⟨c0, c1, c2⟩, ⟨d0, d1, d2⟩, ⟨g0, g1, g2⟩, _⟩ := box2 b1)
    rw [HN.out]
    exact bodyPost_ret (v := .tuple #[.agg #[.bool false, .slice none 0 0, .int .i64 0], .int .i64 0]) (by simp [results, Tryd.results15, go_sem, d0, d1, d2]) rfl ⟨none, 0, rfl, NS.nil _, Frs.none _, box2_end b1 _ _ _⟩
  · have HN : Hid (normD ⟨neg, xs, ex⟩ = if 256 < (lo (vl xs / 2 ^ tz (vl xs))).length ∨ 65536 < ex ∨ ex < -65536 - (tz (vl xs) : Int) ∨ 65536 < ex + tz (vl xs) then (dy0, 3) else (⟨neg, lo (vl xs / 2 ^ tz (vl xs)), ex + tz (vl xs)⟩, 0)) := norm_case (d := ⟨neg, xs, ex⟩) h0
    obtain ⟨V, hV⟩ : ∃ V, vl xs = V := ⟨_, rfl⟩
    rw [hV] at hT hlen hvl h0 HN
    clear hV hL
    have hbt := tz_lt_bl h0
    have hbl : bl V ≤ 64 * (lo V).length := by rw [lo_length]; unfold nl; omega
    have hD := fun ao1 cap1 w1 h1 => natDown_any (lo V) ao1 cap1 (tz V) w1 h1 (lo_lm _) (by omega) (by omega)
    rw [vl_lo] at hD
    have HBL : Hid (∀ n, n < tz V → (lo V).getD (n / 64) 0 / 2 ^ (n % 64) % 2 = 0) := fun n h => (bit_of V n).trans (bit_low h)
    have HBA : Hid ((lo V).getD (tz V / 64) 0 / 2 ^ (tz V % 64) % 2 = 1) := (bit_of V _).trans (bit_at h0)
    have hne : (((lo V).length : Int) == 0) = false := beq_eq_false_iff_ne.2 (by omega)
    obtain ⟨z, hz⟩ : ∃ z, tz V = z := ⟨_, rfl⟩
    rw [hz] at hbt hD HBL HBA HN
    have hz1 : z < 64 * (lo V).length := by omega
    have hz2 : z ≤ 281474976710656 := by omega
    clear hz hvl h0 hbt hbl
    go_enter Tryd.func15, Tryd.ntmps15
    go_wp2_with (go_at_call 48; refine (hT _ (hr.below (((Below.refl _ _).alloc (Nat.le_refl _) _).alloc (by simp) _))).mono ?_; rintro e w1 ⟨ao1, cap1, rfl, h1, f1, b1⟩)
    clear hT hr
    go_loopg [5] z (fun g i wr => ∃ k : Nat, k ≤ z ∧ g = z - k ∧ i = .int .i64 k ∧ wr = w1)
    case atStart => exact ⟨0, Nat.zero_le _, rfl, rfl, rfl⟩
    case round =>
      obtain ⟨k, hk, hg, rfl, rfl⟩ := hrel
      have l1 := h1.1
      rcases l1 with h | ⟨b, off, rfl, hc⟩
      · omega
      · have g1 := hc (k / 64) (by omega)
        have i1 : (k : Int) / 64 < ((lo V).length : Int) := by omega
        have e1 : (k : Int) / 64 = ((k / 64 : Nat) : Int) := by omega
        have e2 : (k : Int) % 64 = ((k % 64 : Nat) : Int) := by omega
        obtain ⟨x, hx⟩ : ∃ x, (lo V).getD (k / 64) 0 = x := ⟨_, rfl⟩
        have hxl : x < 18446744073709551616 := by rw [← hx]; exact (lo_lm V).getD _
        rw [hx] at g1
        obtain ⟨r, hr⟩ : ∃ r, k % 64 = r := ⟨_, rfl⟩
        obtain ⟨q, hq⟩ : ∃ q, k / 64 = q := ⟨_, rfl⟩
        have hr64 : r < 64 := by omega
        rw [hr] at e2
        rw [hq] at e1 g1
        clear hc
        by_cases hlt : k < z
        · have e3 := HBL.out k hlt
          rw [hx, hr] at e3
          have e4 : ((x : Int) / 2 ^ r).tmod 2 = 0 := bit_cast e3
          clear hx hr hq e3
          go_wp2
          go_roundg (z - (k + 1))
          case measure => omega
          case rel => exact ⟨k + 1, by omega, rfl, by go_num, rfl⟩
        · obtain rfl : k = z := by omega
          have e3 := HBA.out
          rw [hx, hr] at e3
          have e4 : ((x : Int) / 2 ^ r).tmod 2 = 1 := bit_cast1 e3
          clear hx hr hq e3 HBL HBA
          obtain ⟨L, hL⟩ : ∃ L, lo (V / 2 ^ k) = L := ⟨_, rfl⟩
          rw [hL] at hD HN
          clear hL
          by_cases q1 : 256 < L.length
          · have p1 : (256 : Int) < (L.length : Int) := by omega
            rw [if_pos (Or.inl q1)] at HN
            go_wp2_with (go_at_call 49; refine (hD _ _ _ h1).mono ?_; rintro e w2 ⟨ao2, cap2, rfl, h2, f2, b2⟩; have b3 := b1.trans (b2.mono b1.size); obtain ⟨⟨c0, c1, c2⟩, ⟨d0, d1, d2⟩, ⟨g0, g1', g2⟩, _⟩ := box2 b3)
            rw [HN.out]
            exact bodyPost_ret (v := .tuple #[.agg #[.bool false, .slice none 0 0, .int .i64 0], .int .i64 3]) (by simp [results, Tryd.results15, go_sem, d0, d1, d2]) rfl ⟨none, 0, rfl, NS.nil _, Frs.none _, box2_end b3 _ _ _⟩
          · have p1 : ¬ (256 : Int) < (L.length : Int) := by omega
            by_cases q2 : 65536 < ex
            · rw [if_pos (Or.inr (Or.inl q2))] at HN
              go_wp2_with (go_at_call 49; refine (hD _ _ _ h1).mono ?_; rintro e w2 ⟨ao2, cap2, rfl, h2, f2, b2⟩; have b3 := b1.trans (b2.mono b1.size); obtain ⟨⟨c0, c1, c2⟩, ⟨d0, d1, d2⟩, ⟨g0, g1', g2⟩, _⟩ := box2 b3)
              rw [HN.out]
              exact bodyPost_ret (v := .tuple #[.agg #[.bool false, .slice none 0 0, .int .i64 0], .int .i64 3]) (by simp [results, Tryd.results15, go_sem, d0, d1, d2]) rfl ⟨none, 0, rfl, NS.nil _, Frs.none _, box2_end b3 _ _ _⟩
            · by_cases q3 : ex < -65536 - (k : Int)
              · rw [if_pos (Or.inr (Or.inr (Or.inl q3)))] at HN
                go_wp2_with (go_at_call 49; refine (hD _ _ _ h1).mono ?_; rintro e w2 ⟨ao2, cap2, rfl, h2, f2, b2⟩; have b3 := b1.trans (b2.mono b1.size); obtain ⟨⟨c0, c1, c2⟩, ⟨d0, d1, d2⟩, ⟨g0, g1', g2⟩, _⟩ := box2 b3)
                rw [HN.out]
                exact bodyPost_ret (v := .tuple #[.agg #[.bool false, .slice none 0 0, .int .i64 0], .int .i64 3]) (by simp [results, Tryd.results15, go_sem, d0, d1, d2]) rfl ⟨none, 0, rfl, NS.nil _, Frs.none _, box2_end b3 _ _ _⟩
              · by_cases q4 : 65536 < ex + (k : Int)
                · rw [if_pos (Or.inr (Or.inr (Or.inr q4)))] at HN
                  go_wp2_with (go_at_call 49; refine (hD _ _ _ h1).mono ?_; rintro e w2 ⟨ao2, cap2, rfl, h2, f2, b2⟩; have b3 := b1.trans (b2.mono b1.size); obtain ⟨⟨c0, c1, c2⟩, ⟨d0, d1, d2⟩, ⟨g0, g1', g2⟩, _⟩ := box2 b3)
                  rw [HN.out]
                  exact bodyPost_ret (v := .tuple #[.agg #[.bool false, .slice none 0 0, .int .i64 0], .int .i64 3]) (by simp [results, Tryd.results15, go_sem, d0, d1, d2]) rfl ⟨none, 0, rfl, NS.nil _, Frs.none _, box2_end b3 _ _ _⟩
                · rw [if_neg (by omega)] at HN
                  go_wp2_with (go_at_call 49; refine (hD _ _ _ h1).mono ?_; rintro e w2 ⟨ao2, cap2, rfl, h2, f2, b2⟩; have b3 := b1.trans (b2.mono b1.size); obtain ⟨⟨c0, c1, c2⟩, ⟨d0, d1, d2⟩, ⟨g0, g1', g2⟩, _⟩ := box2 b3)
                  have hfr2 : Frs (w.heap.size + 2) ao2 := f2.mono (by have h := b1.size; simp at h; omega)
                  rw [HN.out]
                  refine bodyPost_ret (v := .tuple #[.agg #[.bool neg, .slice ao2 L.length cap2, .int .i64 (ex + k)], .int .i64 0]) (by simp [results, Tryd.results15, go_sem, d0, d1, d2]) rfl ⟨ao2, cap2, rfl, ?_, hfr2.mono (by omega), box2_end b3 _ _ _⟩
                  exact ⟨((h2.1.box hfr2 (by omega) _ _).box hfr2 (by omega) _ _).box hfr2 (by omega) _ _, h2.2⟩
end Go.Proofs.YtjjchlfdaacddaaDoor
