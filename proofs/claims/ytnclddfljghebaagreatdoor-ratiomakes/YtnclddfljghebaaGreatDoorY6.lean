/- What the reference's Plus answers: a number of the sum's value. -/
import Derived.Test.YtnclddfljghebaaGreatDoorZn
import Derived.Test.YtnclddfljghebaaGreatDoorZo
namespace Go.Proofs.YtnclddfljghebaaGreatDoor
open Go.RowKit

theorem bit_of (v n : Nat) : (lo v).getD (n / 64) 0 / 2 ^ (n % 64) % 2 = v / 2 ^ n % 2 := by
  have e : (2 : Nat) ^ n = 2 ^ (64 * (n / 64)) * 2 ^ (n % 64) := by rw [← Nat.pow_add]; congr 1; omega
  rw [lo_digit, e, ← Nat.div_div_eq_div_mul]
  generalize v / 2 ^ (64 * (n / 64)) = x
  obtain ⟨k, hk⟩ : ∃ k, 18446744073709551616 = 2 ^ (n % 64) * (2 * k) := ⟨2 ^ (63 - n % 64), by
    rw [← Nat.pow_succ', ← Nat.pow_add, show n % 64 + (63 - n % 64 + 1) = 64 by omega]⟩
  have hd := Nat.mod_add_div x 18446744073709551616
  have e3 : 18446744073709551616 * (x / 18446744073709551616) = 2 ^ (n % 64) * (2 * (k * (x / 18446744073709551616))) := by
    rw [← Nat.mul_assoc 2 k, ← Nat.mul_assoc, ← hk]
  have e2 : x / 2 ^ (n % 64) = x % 18446744073709551616 / 2 ^ (n % 64) + 2 * (k * (x / 18446744073709551616)) := by
    conv => lhs; rw [← hd]
    rw [e3]
    exact Nat.add_mul_div_left _ _ (Nat.two_pow_pos _)
  omega
theorem bit_low {v n : Nat} (h : n < tz v) : v / 2 ^ n % 2 = 0 := by
  have h0 : v ≠ 0 := fun e => by rw [e, tz_zero] at h; omega
  obtain ⟨m, hm⟩ := tz_spec h0
  obtain ⟨d, hd⟩ : ∃ d, tz v = n + (1 + d) := ⟨tz v - n - 1, by omega⟩
  rw [hm, hd, Nat.pow_add, Nat.mul_assoc, Nat.mul_div_cancel_left _ (Nat.two_pow_pos n), Nat.pow_add, Nat.pow_one, Nat.mul_assoc, Nat.mul_mod_right]
theorem bit_cast {x r : Nat} (h : x / 2 ^ r % 2 = 0) : ((x : Int) / 2 ^ r).tmod 2 = 0 := by
  have := congrArg (Nat.cast (R := Int)) h
  rw [Int.natCast_emod, Int.natCast_ediv, Int.natCast_pow] at this
  rw [Int.tmod_eq_emod_of_nonneg (Int.ediv_nonneg (by omega) (Int.le_of_lt (Int.pow_pos (by omega))))]
  exact this
theorem bit_cast1 {x r : Nat} (h : x / 2 ^ r % 2 = 1) : ((x : Int) / 2 ^ r).tmod 2 = 1 := by
  have := congrArg (Nat.cast (R := Int)) h
  rw [Int.natCast_emod, Int.natCast_ediv, Int.natCast_pow] at this
  rw [Int.tmod_eq_emod_of_nonneg (Int.ediv_nonneg (by omega) (Int.le_of_lt (Int.pow_pos (by omega))))]
  exact this
theorem bit_at {v : Nat} (h : v ≠ 0) : v / 2 ^ tz v % 2 = 1 := (tz_div h).1
theorem norm_case {d : Dy} (h0 : vl d.mag ≠ 0) : normD d = if 256 < (lo (vl d.mag / 2 ^ tz (vl d.mag))).length ∨ 65536 < d.exp ∨ d.exp < -65536 - (tz (vl d.mag) : Int) ∨ 65536 < d.exp + tz (vl d.mag) then (dy0, 3) else (⟨d.neg, lo (vl d.mag / 2 ^ tz (vl d.mag)), d.exp + tz (vl d.mag)⟩, 0) := by
  have e : (lo (vl d.mag / 2 ^ tz (vl d.mag))).length = (bl (vl d.mag) - tz (vl d.mag) + 63) / 64 := by rw [lo_length]; unfold nl; rw [bl_div]
  have ht := tz_lt_bl h0
  rw [e]
  by_cases hc : 16384 < bl (vl d.mag) - tz (vl d.mag) ∨ d.exp + tz (vl d.mag) < -65536 ∨ 65536 < d.exp + tz (vl d.mag)
  · rw [norm_long h0 hc, if_pos (by omega)]
  · rw [norm_fine h0 hc, if_neg (by omega)]
/-- A dyad handed back, its limbs a whole slice. -/
def GaveX (w : World) (r : Dy × Int) (e : Ending) (w' : World) : Prop :=
  ∃ ao cap, e = .returned (.tuple #[.agg #[.bool r.1.neg, .slice ao r.1.mag.length cap, .int .i64 r.1.exp], .int .i64 r.2]) ∧ NS w' ao cap r.1.mag ∧ Frs w.heap.size ao ∧ Below w.heap.size w w'
theorem GaveX.gave {w : World} {r : Dy × Int} {e : Ending} {w' : World} (h : GaveX w r e w') : Gave w r e w' := by
  obtain ⟨ao, cap, h1, h2, h3⟩ := h
  exact ⟨ao, cap, h1, h2.1, h3⟩
/-- A number handed back. -/
def GaveM (w : World) (d : Dy) (e : Ending) (w' : World) : Prop :=
  ∃ ao cap, e = .returned (.agg #[.bool d.neg, .slice ao d.mag.length cap, .int .i64 d.exp]) ∧ NS w' ao cap d.mag ∧ Frs w.heap.size ao ∧ Below w.heap.size w w'
theorem GaveM.gave {w : World} {d : Dy} {e : Ending} {w' : World} (h : GaveM w d e w') : GaveD w d e w' := by
  obtain ⟨ao, cap, h1, h2, h3⟩ := h
  exact ⟨ao, cap, h1, h2.1, h3⟩
end Go.Proofs.YtnclddfljghebaaGreatDoor

namespace Go.Proofs.YtnclddfljghebaaGreatDoor
open Go.RowKit

set_option maxHeartbeats 1000000 in
theorem dright_any (d : Dy) (ao : Option Addr) (cap : Nat) (w : World) (hr : LRow w ao d.mag) (hL : Lm d.mag) :
    Calls Tryz.prog 57 #[.agg #[.bool d.neg, .slice ao d.mag.length cap, .int .i64 d.exp]] w fun e w' => e = .returned (.bool (rightB d)) ∧ Below w.heap.size w w' := by
  obtain ⟨neg, xs, ex⟩ := d
  have hend : ∀ o1, Below w.heap.size w (w.alloc o1) := fun o1 => (Below.refl _ _).alloc (Nat.le_refl _) o1
  simp only at *
  by_cases h0 : xs.length = 0
  · have HE : Hid (rightB ⟨neg, xs, ex⟩ = (!neg && decide (ex = 0))) := (show rightB ⟨neg, xs, ex⟩ = _ by unfold rightB; rw [if_pos (by exact h0)])
    rw [h0]
    cases neg
    all_goals
      go_enter Tryz.func57, Tryz.ntmps57
      go_wp2
      go_ret
      exact ⟨retB (by rw [HE.out]; first | rfl | (rw [Bool.eq_iff_iff]; simp)), hend _⟩
  · rcases hr with h | ⟨b, off, rfl, hc⟩
    · omega
    · have g0 := fun o => cell_alloc (hc 0 (by omega)) o
      have g1 := fun o => cell_alloc (hc (xs.length - 1) (by omega)) o
      have k0 := hL.getD 0
      have HR : Hid (rightB ⟨neg, xs, ex⟩ = decide (xs.length ≤ 256 ∧ xs.getD 0 0 % 2 = 1 ∧ xs.getD (xs.length - 1) 0 ≠ 0 ∧ -65536 ≤ ex ∧ ex ≤ 65536)) := (show rightB ⟨neg, xs, ex⟩ = _ by unfold rightB; rw [if_neg (by exact h0)])
      generalize xs.getD 0 0 = x at *
      generalize xs.getD (xs.length - 1) 0 = y at *
      have hn0 : ((xs.length : Int) == 0) = false := beq_eq_false_iff_ne.2 (by omega)
      simp only [Nat.add_zero] at g0
      clear hc hL
      by_cases h1 : (xs.length : Int) ≤ 256
      · by_cases h3 : y = 0
        · have h3' : ((y : Int) != 0) = false := by simp; omega
          have HE : Hid (rightB ⟨neg, xs, ex⟩ = false) := (show _ = _ by rw [HR.out]; simp [h3])
          clear HR h3
          go_enter Tryz.func57, Tryz.ntmps57
          go_wp2
          go_ret
          exact ⟨retB (by rw [HE.out]), hend _⟩
        · have h3' : ((y : Int) != 0) = true := by simp; omega
          by_cases h2 : x % 2 = 1
          · have h2' : ((x : Int) % 2 == 1) = true := by simp; omega
            by_cases h4 : -65536 ≤ ex
            · by_cases h5 : ex ≤ 65536
              all_goals
                have HE : Hid (rightB ⟨neg, xs, ex⟩ = decide (ex ≤ 65536)) := (show _ = _ by rw [HR.out, Bool.eq_iff_iff]; simp; omega)
                clear HR h2 h3
                go_enter Tryz.func57, Tryz.ntmps57
                go_wp2
                go_ret
                exact ⟨retB (by rw [HE.out]; simp; omega), hend _⟩
            · have HE : Hid (rightB ⟨neg, xs, ex⟩ = false) := (show _ = _ by rw [HR.out]; simp; omega)
              clear HR h2 h3
              go_enter Tryz.func57, Tryz.ntmps57
              go_wp2
              go_ret
              exact ⟨retB (by rw [HE.out]), hend _⟩
          · have h2' : ((x : Int) % 2 == 1) = false := by simp; omega
            have HE : Hid (rightB ⟨neg, xs, ex⟩ = false) := (show _ = _ by rw [HR.out]; simp [h2])
            clear HR h2 h3
            go_enter Tryz.func57, Tryz.ntmps57
            go_wp2
            go_ret
            exact ⟨retB (by rw [HE.out]), hend _⟩
      · have HE : Hid (rightB ⟨neg, xs, ex⟩ = false) := (show _ = _ by rw [HR.out]; simp; omega)
        clear HR
        go_enter Tryz.func57, Tryz.ntmps57
        go_wp2
        go_ret
        exact ⟨retB (by rw [HE.out]), hend _⟩
set_option maxHeartbeats 2000000 in
theorem ddyad_any (d : Dy) (ao : Option Addr) (cap : Nat) (w : World) (hr : NS w ao cap d.mag) (hL : Lm d.mag) (hl : d.mag.length ≤ 17592186044416) :
    Calls Tryz.prog 58 #[.agg #[.bool d.neg, .slice ao d.mag.length cap, .int .i64 d.exp]] w (GaveM w ⟨d.neg, lo (vl d.mag), d.exp⟩) := by
  obtain ⟨neg, xs, ex⟩ := d
  simp only at *
  have hT := fun w' (h : NS w' ao cap xs) => natTrim_any xs ao cap w' h hL hl
  have hr2 : NS ((w.alloc (.cells #[.bool neg, .slice ao xs.length cap, .int .i64 ex] 27)).alloc (.cells #[.bool false, .slice none 0 0, .int .i64 0] 69)).drew ao cap xs := hr.below ((((Below.refl _ _).alloc (Nat.le_refl _) _).alloc (by simp) _).drew)
  go_enter Tryz.func58, Tryz.ntmps58
  go_wp2
  go_region_held3 (fun w' => w'.cell? ⟨w.heap.size, 0, none⟩ = some (.bool neg) ∧ w'.cell? ⟨w.heap.size, 1, none⟩ = some (.slice ao xs.length cap) ∧ w'.cell? ⟨w.heap.size, 2, none⟩ = some (.int .i64 ex)) (go_keep)
    (first | (go_at_call 41; refine (hT _ hr2).mono ?_; rintro e w1 ⟨ao1, cap1, rfl, h1, f1, b1⟩; replace b1 := undrew b1; obtain ⟨⟨c0, c1, c2⟩, ⟨d0, d1, d2⟩, ⟨f0, f1', f2⟩, _⟩ := box2 b1))
  clear c0 c1 c2 hr2
  have hfr2 : Frs (w.heap.size + 2) ao1 := f1.mono (by simp)
  go_wp2
  refine bodyPost_ret (v := .agg #[.bool neg, .slice ao1 (lo (vl xs)).length cap1, .int .i64 ex]) (by simp [results, Tryz.results58, go_sem, d0, d1, d2]) rfl ⟨ao1, cap1, rfl, ?_, hfr2.mono (by omega), box2_end b1 _ _ _⟩
  exact ⟨((h1.1.box hfr2 (by omega) _ _).box hfr2 (by omega) _ _).box hfr2 (by omega) _ _, h1.2⟩
end Go.Proofs.YtnclddfljghebaaGreatDoor

namespace Go.Proofs.YtnclddfljghebaaGreatDoor
open Go.RowKit

theorem bl_none {v : Nat} : bl v = 0 ↔ v = 0 := by
  constructor
  · intro h
    by_cases h0 : v = 0
    · exact h0
    · have := bl_pos h0; omega
  · intro h; rw [h, bl_zero]
end Go.Proofs.YtnclddfljghebaaGreatDoor

namespace Go.Proofs.YtnclddfljghebaaGreatDoor
open Go.RowKit

/-- Three boxes of three cells, behind a call that turned nothing old. -/
theorem bx3 {w w1 : World} {x0 x1 x2 y0 y1 y2 z0 z1 z2 : Value} {s t u : TypeId} (hb : Below (((w.alloc (.cells #[x0, x1, x2] s)).alloc (.cells #[y0, y1, y2] t)).alloc (.cells #[z0, z1, z2] u)).heap.size (((w.alloc (.cells #[x0, x1, x2] s)).alloc (.cells #[y0, y1, y2] t)).alloc (.cells #[z0, z1, z2] u)) w1) :
    (w1.cell? ⟨w.heap.size, 0, none⟩ = some x0 ∧ w1.cell? ⟨w.heap.size, 1, none⟩ = some x1 ∧ w1.cell? ⟨w.heap.size, 2, none⟩ = some x2) ∧
    (w1.cell? ⟨w.heap.size + 1, 0, none⟩ = some y0 ∧ w1.cell? ⟨w.heap.size + 1, 1, none⟩ = some y1 ∧ w1.cell? ⟨w.heap.size + 1, 2, none⟩ = some y2) ∧
    (w1.cell? ⟨w.heap.size + 1 + 1, 0, none⟩ = some z0 ∧ w1.cell? ⟨w.heap.size + 1 + 1, 1, none⟩ = some z1 ∧ w1.cell? ⟨w.heap.size + 1 + 1, 2, none⟩ = some z2) ∧
    (w1.frozen? ⟨w.heap.size + 1 + 1, 0, none⟩ = false ∧ w1.frozen? ⟨w.heap.size + 1 + 1, 1, none⟩ = false ∧ w1.frozen? ⟨w.heap.size + 1 + 1, 2, none⟩ = false) ∧ Below w.heap.size w w1 := by
  obtain ⟨hc, hf⟩ := oldc hb
  have l0 : w.heap.size < (((w.alloc (.cells #[x0, x1, x2] s)).alloc (.cells #[y0, y1, y2] t)).alloc (.cells #[z0, z1, z2] u)).heap.size := by go_simp
  have l1 : w.heap.size + 1 < (((w.alloc (.cells #[x0, x1, x2] s)).alloc (.cells #[y0, y1, y2] t)).alloc (.cells #[z0, z1, z2] u)).heap.size := by go_simp
  have l2 : w.heap.size + 1 + 1 < (((w.alloc (.cells #[x0, x1, x2] s)).alloc (.cells #[y0, y1, y2] t)).alloc (.cells #[z0, z1, z2] u)).heap.size := by go_simp
  have h0 : Below w.heap.size w (((w.alloc (.cells #[x0, x1, x2] s)).alloc (.cells #[y0, y1, y2] t)).alloc (.cells #[z0, z1, z2] u)) := (((Below.refl _ _).alloc (Nat.le_refl _) _).alloc (by simp) _).alloc (by simp; omega) _
  refine ⟨⟨?_, ?_, ?_⟩, ⟨?_, ?_, ?_⟩, ⟨?_, ?_, ?_⟩, ⟨?_, ?_, ?_⟩, h0.trans (hb.mono h0.size)⟩
  · rw [hc _ _ l0]; go_simp
  · rw [hc _ _ l0]; go_simp
  · rw [hc _ _ l0]; go_simp
  · rw [hc _ _ l1]; go_simp
  · rw [hc _ _ l1]; go_simp
  · rw [hc _ _ l1]; go_simp
  · rw [hc _ _ l2]; go_simp
  · rw [hc _ _ l2]; go_simp
  · rw [hc _ _ l2]; go_simp
  · rw [hf _ _ l2]; go_simp
  · rw [hf _ _ l2]; go_simp
  · rw [hf _ _ l2]; go_simp
theorem al3 {w : World} {o1 o2 o3 : Obj} : Below w.heap.size w (((w.alloc o1).alloc o2).alloc o3) := (((Below.refl _ _).alloc (Nat.le_refl _) _).alloc (by simp) _).alloc (by simp; omega) _
end Go.Proofs.YtnclddfljghebaaGreatDoor

namespace Go.Proofs.YtnclddfljghebaaGreatDoor
open Go.RowKit

/-- z is the sum of x and y. -/
def PlusV (x y z : Dy) : Prop := Lm z.mag ∧ (z.exp = x.exp ∨ z.exp = y.exp) ∧ ∀ L : Int, L ≤ x.exp → L ≤ y.exp → sv z * 2 ^ (z.exp - L).toNat = sv x * 2 ^ (x.exp - L).toNat + sv y * 2 ^ (y.exp - L).toNat
theorem plusV_swap {x y z : Dy} (h : PlusV y x z) : PlusV x y z := ⟨h.1, h.2.1.symm, fun L h1 h2 => by rw [h.2.2 L h2 h1, Int.add_comm]⟩
theorem sv_zero {d : Dy} (h : vl d.mag = 0) : sv d = 0 := by have := sv_abs d; omega
theorem plusV_left {x y : Dy} (hL : Lm y.mag) (h : vl x.mag = 0) : PlusV x y y := ⟨hL, Or.inr rfl, fun L _ _ => by rw [sv_zero h, Int.zero_mul, Int.zero_add]⟩
theorem plusV_right {x y : Dy} (hL : Lm x.mag) (h : vl y.mag = 0) : PlusV x y x := ⟨hL, Or.inl rfl, fun L _ _ => by rw [sv_zero h, Int.zero_mul, Int.add_zero]⟩
/-- The sum at the lesser power. -/
theorem plusV_of {x y z : Dy} {k : Nat} (hL : Lm z.mag) (he : z.exp = x.exp) (hk : y.exp = x.exp + k) (hs : sv z = sv x + sv y * 2 ^ k) : PlusV x y z := by
  refine ⟨hL, Or.inl he, fun L h1 _ => ?_⟩
  rw [he, hs, hk, show (x.exp + (k : Int) - L).toNat = k + (x.exp - L).toNat by omega, Int.pow_add, Int.add_mul, Int.mul_assoc]
theorem up_cast (v k : Nat) : ((v * 2 ^ k : Nat) : Int) = (v : Int) * 2 ^ k := by rw [Int.natCast_mul, Int.natCast_pow]; rfl
theorem plus_same {n : Bool} {xs ys : List Nat} {e f : Int} {k : Nat} (hk : f = e + k) : PlusV ⟨n, xs, e⟩ ⟨n, ys, f⟩ ⟨n, lo (vl xs + vl ys * 2 ^ k), e⟩ := by
  refine plusV_of (lo_lm _) rfl hk ?_
  unfold sv
  simp only [vl_lo]
  have h := up_cast (vl ys) k
  cases n
  · simp only [Bool.false_eq_true, if_false]; omega
  · simp only [if_true]; rw [Int.neg_mul]; omega
theorem plus_less {n m : Bool} {xs ys : List Nat} {e f : Int} {k : Nat} (hk : f = e + k) (hnm : n ≠ m) (hle : vl ys * 2 ^ k ≤ vl xs) : PlusV ⟨n, xs, e⟩ ⟨m, ys, f⟩ ⟨n, lo (vl xs - vl ys * 2 ^ k), e⟩ := by
  refine plusV_of (lo_lm _) rfl hk ?_
  unfold sv
  simp only [vl_lo]
  have h := up_cast (vl ys) k
  cases n <;> cases m
  · exact absurd rfl hnm
  · simp only [Bool.false_eq_true, if_false, if_true]; rw [Int.neg_mul]; omega
  · simp only [Bool.false_eq_true, if_false, if_true]; omega
  · exact absurd rfl hnm
theorem plus_more {n m : Bool} {xs ys : List Nat} {e f : Int} {k : Nat} (hk : f = e + k) (hnm : n ≠ m) (hle : vl xs ≤ vl ys * 2 ^ k) : PlusV ⟨n, xs, e⟩ ⟨m, ys, f⟩ ⟨m, lo (vl ys * 2 ^ k - vl xs), e⟩ := by
  refine plusV_of (lo_lm _) rfl hk ?_
  unfold sv
  simp only [vl_lo]
  have h := up_cast (vl ys) k
  cases n <;> cases m
  · exact absurd rfl hnm
  · simp only [Bool.false_eq_true, if_false, if_true]; rw [Int.neg_mul]; omega
  · simp only [Bool.false_eq_true, if_false, if_true]; omega
  · exact absurd rfl hnm
theorem LRow.blk3 {w : World} {ao : Option Addr} {xs : List Nat} (h : LRow w ao xs) {b off : Nat} (e : ao = some ⟨b, off, none⟩) (h0 : xs.length ≠ 0) : b < w.heap.size := by
  rcases h with h | ⟨b', off', e', hc⟩
  · exact absurd h h0
  · rw [e] at e'
    cases e'
    exact World.block_lt_of_cell? w _ (hc 0 (by omega))
/-- A number of the sum's value handed back. -/
def GaveS (w : World) (ao bo : Option Addr) (x y : Dy) (e : Ending) (w' : World) : Prop :=
  ∃ z zo cap, e = .returned (.agg #[.bool z.neg, .slice zo z.mag.length cap, .int .i64 z.exp]) ∧ PlusV x y z ∧ (z.mag.length ≤ x.mag.length + y.mag.length + 40000 ∧ ((z.mag = lo (vl z.mag) ∧ Frs w.heap.size zo) ∨ (z.mag = x.mag ∧ zo = ao) ∨ (z.mag = y.mag ∧ zo = bo))) ∧ (∀ N : Nat, (∀ p, ao = some p → x.mag.length ≠ 0 → p.block < N) → (∀ p, bo = some p → y.mag.length ≠ 0 → p.block < N) → ∀ p, zo = some p → z.mag.length ≠ 0 → p.block < N ∨ w.heap.size ≤ p.block) ∧ NS w' zo cap z.mag ∧ Below w.heap.size w w'
theorem plus_lens {xs ys : List Nat} {k : Nat} (hL : Lm xs) (hM : Lm ys) (hn : xs.length ≤ 1000000) (hm : ys.length ≤ 1000000) (hk : k ≤ 2000000) :
    (lo (vl ys * 2 ^ k)).length ≤ 3000000 ∧ ((lo (vl xs + vl ys * 2 ^ k)).length ≤ xs.length + ys.length + 40000 ∧ lo (vl xs + vl ys * 2 ^ k) = lo (vl (lo (vl xs + vl ys * 2 ^ k)))) ∧ ((lo (vl xs - vl ys * 2 ^ k)).length ≤ xs.length + ys.length + 40000 ∧ lo (vl xs - vl ys * 2 ^ k) = lo (vl (lo (vl xs - vl ys * 2 ^ k)))) ∧ ((lo (vl ys * 2 ^ k - vl xs)).length ≤ xs.length + ys.length + 40000 ∧ lo (vl ys * 2 ^ k - vl xs) = lo (vl (lo (vl ys * 2 ^ k - vl xs)))) := by
  rw [vl_lo, vl_lo, vl_lo]
  obtain ⟨N, hN⟩ : ∃ N, N = xs.length + ys.length + 31250 := ⟨_, rfl⟩
  have hV : vl ys * 2 ^ k < 2 ^ (64 * N) := by
    calc vl ys * 2 ^ k < 2 ^ (64 * ys.length) * 2 ^ k := (Nat.mul_lt_mul_right (Nat.two_pow_pos k)).2 (vl_lt hM)
      _ = 2 ^ (64 * ys.length + k) := by rw [← Nat.pow_add]
      _ ≤ 2 ^ (64 * N) := Nat.pow_le_pow_right (by omega) (by omega)
  have hX : vl xs < 2 ^ (64 * N) := Nat.lt_of_lt_of_le (vl_lt hL) (Nat.pow_le_pow_right (by omega) (by omega))
  have hS : vl xs + vl ys * 2 ^ k < 2 ^ (64 * (N + 1)) := by rw [pow64_succ]; omega
  rw [lo_length, lo_length, lo_length, lo_length]
  have h1 := nl_le hV
  have h2 := nl_le hS
  have h3 := nl_le (show vl xs - vl ys * 2 ^ k < 2 ^ (64 * N) by omega)
  have h4 := nl_le (show vl ys * 2 ^ k - vl xs < 2 ^ (64 * N) by omega)
  exact ⟨by omega, ⟨by omega, rfl⟩, ⟨by omega, rfl⟩, ⟨by omega, rfl⟩⟩
end Go.Proofs.YtnclddfljghebaaGreatDoor
