/- What the reference's Plus answers: a number of the sum's value. -/
import Derived.Test.YtggdjbdamaeikaaGreatDoorMh
namespace Go.Proofs.YtggdjbdamaeikaaGreatDoor
open Go.RowKit

/-- z is the sum of x and y. -/
def PlusV (x y z : Dy) : Prop := Lm z.mag ∧ (z.exp = x.exp ∨ z.exp = y.exp) ∧ ∀ L : Int, L ≤ x.exp → L ≤ y.exp → sv z * 2 ^ (z.exp - L).toNat = sv x * 2 ^ (x.exp - L).toNat + sv y * 2 ^ (y.exp - L).toNat
theorem plusV_swap {x y z : Dy} (h : PlusV y x z) : PlusV x y z := ⟨h.1, h.2.1.symm, fun L h1 h2 => by rw [h.2.2 L h2 h1, Int.add_comm]⟩
theorem sv_zero {d : Dy} (h : vl d.mag = 0) : sv d = 0 := by have := sv_abs d; omega
theorem plusV_left {x y : Dy} (hL : Lm y.mag) (h : vl x.mag = 0) : PlusV x y y := ⟨hL, Or.inr rfl, fun L _ _ => by rw [sv_zero h, Int.zero_mul, Int.zero_add]⟩
theorem plusV_right {x y : Dy} (hL : Lm x.mag) (h : vl y.mag = 0) : PlusV x y x := ⟨hL, Or.inl rfl, fun L _ _ => by rw [sv_zero h, Int.zero_mul, Int.add_zero]⟩
/-- The sum at the lesser power. -/
theorem plusV_of {x y z : Dy} {k : Nat} (hL : Lm z.mag) (he : z.exp = x.exp) (hk : y.exp = x.exp + k) (hs : sv z = sv x + sv y * 2 ^ k) : PlusV x y z := by
  refine ⟨hL, Or.inl he, fun L h1 _ => ?_⟩
  rw [he, hs, hk, show (x.exp + (k : Int) - L).toNat = k + (x.exp - L).toNat by omega, Int.pow_add, Int.add_mul, Int.mul_assoc]
theorem up_cast (v k : Nat) : ((v * 2 ^ k : Nat) : Int) = (v : Int) * 2 ^ k := by rw [Int.natCast_mul, Int.natCast_pow]; rfl
theorem plus_same {n : Bool} {xs ys : List Nat} {e f : Int} {k : Nat} (hk : f = e + k) : PlusV ⟨n, xs, e⟩ ⟨n, ys, f⟩ ⟨n, lo (vl xs + vl ys * 2 ^ k), e⟩ := by
  refine plusV_of (lo_lm _) rfl hk ?_
  unfold sv
  simp only [vl_lo]
  have h := up_cast (vl ys) k
  cases n
  · simp only [Bool.false_eq_true, if_false]; omega
  · simp only [if_true]; rw [Int.neg_mul]; omega
theorem plus_less {n m : Bool} {xs ys : List Nat} {e f : Int} {k : Nat} (hk : f = e + k) (hnm : n ≠ m) (hle : vl ys * 2 ^ k ≤ vl xs) : PlusV ⟨n, xs, e⟩ ⟨m, ys, f⟩ ⟨n, lo (vl xs - vl ys * 2 ^ k), e⟩ := by
  refine plusV_of (lo_lm _) rfl hk ?_
  unfold sv
  simp only [vl_lo]
  have h := up_cast (vl ys) k
  cases n <;> cases m
  · exact absurd rfl hnm
  · simp only [Bool.false_eq_true, if_false, if_true]; rw [Int.neg_mul]; omega
  · simp only [Bool.false_eq_true, if_false, if_true]; omega
  · exact absurd rfl hnm
theorem plus_more {n m : Bool} {xs ys : List Nat} {e f : Int} {k : Nat} (hk : f = e + k) (hnm : n ≠ m) (hle : vl xs ≤ vl ys * 2 ^ k) : PlusV ⟨n, xs, e⟩ ⟨m, ys, f⟩ ⟨m, lo (vl ys * 2 ^ k - vl xs), e⟩ := by
  refine plusV_of (lo_lm _) rfl hk ?_
  unfold sv
  simp only [vl_lo]
  have h := up_cast (vl ys) k
  cases n <;> cases m
  · exact absurd rfl hnm
  · simp only [Bool.false_eq_true, if_false, if_true]; rw [Int.neg_mul]; omega
  · simp only [Bool.false_eq_true, if_false, if_true]; omega
  · exact absurd rfl hnm
theorem LRow.blk3 {w : World} {ao : Option Addr} {xs : List Nat} (h : LRow w ao xs) {b off : Nat} (e : ao = some ⟨b, off, none⟩) (h0 : xs.length ≠ 0) : b < w.heap.size := by
  rcases h with h | ⟨b', off', e', hc⟩
  · exact absurd h h0
  · rw [e] at e'
    cases e'
    exact World.block_lt_of_cell? w _ (hc 0 (by omega))
/-- A number of the sum's value handed back. -/
def GaveS (w : World) (ao bo : Option Addr) (x y : Dy) (e : Ending) (w' : World) : Prop :=
  ∃ z zo cap, e = .returned (.agg #[.bool z.neg, .slice zo z.mag.length cap, .int .i64 z.exp]) ∧ PlusV x y z ∧ (z.mag.length ≤ x.mag.length + y.mag.length + 40000 ∧ ((z.mag = lo (vl z.mag) ∧ Frs w.heap.size zo) ∨ (z.mag = x.mag ∧ zo = ao) ∨ (z.mag = y.mag ∧ zo = bo))) ∧ (∀ N : Nat, (∀ p, ao = some p → x.mag.length ≠ 0 → p.block < N) → (∀ p, bo = some p → y.mag.length ≠ 0 → p.block < N) → ∀ p, zo = some p → z.mag.length ≠ 0 → p.block < N ∨ w.heap.size ≤ p.block) ∧ NS w' zo cap z.mag ∧ Below w.heap.size w w'
theorem plus_lens {xs ys : List Nat} {k : Nat} (hL : Lm xs) (hM : Lm ys) (hn : xs.length ≤ 1000000) (hm : ys.length ≤ 1000000) (hk : k ≤ 2000000) :
    (lo (vl ys * 2 ^ k)).length ≤ 3000000 ∧ ((lo (vl xs + vl ys * 2 ^ k)).length ≤ xs.length + ys.length + 40000 ∧ lo (vl xs + vl ys * 2 ^ k) = lo (vl (lo (vl xs + vl ys * 2 ^ k)))) ∧ ((lo (vl xs - vl ys * 2 ^ k)).length ≤ xs.length + ys.length + 40000 ∧ lo (vl xs - vl ys * 2 ^ k) = lo (vl (lo (vl xs - vl ys * 2 ^ k)))) ∧ ((lo (vl ys * 2 ^ k - vl xs)).length ≤ xs.length + ys.length + 40000 ∧ lo (vl ys * 2 ^ k - vl xs) = lo (vl (lo (vl ys * 2 ^ k - vl xs)))) := by
  rw [vl_lo, vl_lo, vl_lo]
  obtain ⟨N, hN⟩ : ∃ N, N = xs.length + ys.length + 31250 := ⟨_, rfl⟩
  have hV : vl ys * 2 ^ k < 2 ^ (64 * N) := by
    calc vl ys * 2 ^ k < 2 ^ (64 * ys.length) * 2 ^ k := (Nat.mul_lt_mul_right (Nat.two_pow_pos k)).2 (vl_lt hM)
      _ = 2 ^ (64 * ys.length + k) := by rw [← Nat.pow_add]
      _ ≤ 2 ^ (64 * N) := Nat.pow_le_pow_right (by omega) (by omega)
  have hX : vl xs < 2 ^ (64 * N) := Nat.lt_of_lt_of_le (vl_lt hL) (Nat.pow_le_pow_right (by omega) (by omega))
  have hS : vl xs + vl ys * 2 ^ k < 2 ^ (64 * (N + 1)) := by rw [pow64_succ]; omega
  rw [lo_length, lo_length, lo_length, lo_length]
  have h1 := nl_le hV
  have h2 := nl_le hS
  have h3 := nl_le (show vl xs - vl ys * 2 ^ k < 2 ^ (64 * N) by omega)
  have h4 := nl_le (show vl ys * 2 ^ k - vl xs < 2 ^ (64 * N) by omega)
  exact ⟨by omega, ⟨by omega, rfl⟩, ⟨by omega, rfl⟩, ⟨by omega, rfl⟩⟩
set_option maxHeartbeats 2000000 in
theorem plus_zero (a b : Dy) (ao bo : Option Addr) (cap bcap : Nat) (w : World) (hr : NS w ao cap a.mag) (hs : NS w bo bcap b.mag) (hL : Lm a.mag) (hM : Lm b.mag) (hn : a.mag.length ≤ 1000000) (hm : b.mag.length ≤ 1000000) (hz : vl a.mag = 0 ∨ vl b.mag = 0) :
    Calls Tryz.prog 28 #[.agg #[.bool a.neg, .slice ao a.mag.length cap, .int .i64 a.exp], .agg #[.bool b.neg, .slice bo b.mag.length bcap, .int .i64 b.exp]] w (GaveS w ao bo a b) := by
  have hZ := fun w' (h : NS w' ao cap a.mag) => zero_any a ao cap w' h hL (by omega)
  have hY := fun w' (h : NS w' bo bcap b.mag) => zero_any b bo bcap w' h hM (by omega)
  by_cases h0 : vl a.mag = 0
  · have HV := plusV_left hM h0
    have e0 : (vl a.mag == 0) = true := by simpa using h0
    rw [e0] at hZ
    obtain ⟨n1, xs, ex⟩ := a
    obtain ⟨n2, ys, ey⟩ := b
    simp only at *
    clear hz h0 e0 hY
    go_enter Tryz.func28, Tryz.ntmps28
    go_wp2_with (go_at_call 55; refine (hZ _ (hr.below al3)).mono ?_; rintro e w1 ⟨rfl, b1⟩; obtain ⟨⟨c0, c1, c2⟩, ⟨d0, d1, d2⟩, ⟨e0, e1, e2⟩, ⟨k0, k1, k2⟩, hB⟩ := bx3 b1)
    refine bodyPost_ret (v := .agg #[.bool n2, .slice bo ys.length bcap, .int .i64 ey]) (by simp [results, Tryz.results28, go_sem, e0, e1, e2]) rfl ⟨⟨n2, ys, ey⟩, bo, bcap, rfl, HV, ⟨by simp only; omega, Or.inr (Or.inr ⟨rfl, rfl⟩)⟩, fun N h1 h2 p e hl => Or.inl (h2 p e hl), ?_, ((hB.setCell (by simp; omega) _).setCell (by simp; omega) _).setCell (by simp; omega) _⟩
    have h1 := hs.below hB
    have hne : ∀ x off, bo = some ⟨x, off, none⟩ → ys.length ≠ 0 → x ≠ w.heap.size + 1 + 1 := fun x off e h0 => by have := hs.1.blk3 e h0; omega
    exact ⟨((h1.1.setCell _ hne).setCell _ hne).setCell _ hne, h1.2⟩
  · have h2 : vl b.mag = 0 := by rcases hz with h | h; · exact absurd h h0
                                 · exact h
    have HV := plusV_right hL h2
    have e0 : (vl a.mag == 0) = false := by simpa using h0
    have e1 : (vl b.mag == 0) = true := by simpa using h2
    rw [e0] at hZ
    rw [e1] at hY
    obtain ⟨n1, xs, ex⟩ := a
    obtain ⟨n2, ys, ey⟩ := b
    simp only at *
    clear hz h0 e0 e1 h2
    go_enter Tryz.func28, Tryz.ntmps28
    go_wp2_with (first
      | (go_at_call_of 55 (Value.agg #[.bool n1, .slice ao xs.length cap, .int .i64 ex]); refine (hZ _ (hr.below al3)).mono ?_; rintro e w1 ⟨rfl, b1⟩; obtain ⟨⟨c0, c1, c2⟩, ⟨d0, d1, d2⟩, ⟨e0, e1, e2⟩, ⟨k0, k1, k2⟩, hB0⟩ := bx3 b1)
      | (go_at_call_of 55 (Value.agg #[.bool n2, .slice bo ys.length bcap, .int .i64 ey]); refine (hY _ (hs.below hB0)).mono ?_; rintro e w2 ⟨rfl, b2⟩; have B2 := b1.trans (b2.mono b1.size); clear c0 c1 c2 d0 d1 d2 e0 e1 e2 k0 k1 k2; obtain ⟨⟨c0, c1, c2⟩, ⟨d0, d1, d2⟩, ⟨e0, e1, e2⟩, ⟨k0, k1, k2⟩, hB⟩ := bx3 B2))
    refine bodyPost_ret (v := .agg #[.bool n1, .slice ao xs.length cap, .int .i64 ex]) (by simp [results, Tryz.results28, go_sem, e0, e1, e2]) rfl ⟨⟨n1, xs, ex⟩, ao, cap, rfl, HV, ⟨by simp only; omega, Or.inr (Or.inl ⟨rfl, rfl⟩)⟩, fun N h1 h2 p e hl => Or.inl (h1 p e hl), ?_, ((hB.setCell (by simp; omega) _).setCell (by simp; omega) _).setCell (by simp; omega) _⟩
    have h1 := hr.below hB
    have hne : ∀ x off, ao = some ⟨x, off, none⟩ → xs.length ≠ 0 → x ≠ w.heap.size + 1 + 1 := fun x off e h0 => by have := hr.1.blk3 e h0; omega
    exact ⟨((h1.1.setCell _ hne).setCell _ hne).setCell _ hne, h1.2⟩
end Go.Proofs.YtggdjbdamaeikaaGreatDoor
