/- NarrowSides, whatever float it is given. -/
import Derived.Test.YtoggdckaimbjeaaDoorVy
namespace Go.Proofs.YtoggdckaimbjeaaDoor
open Go.RowKit

theorem pw_word (s : Bool) {r : Nat} (hr : r ≤ 2139095040) : S.place (Ieee.single.word s r) = (if s then -(r : Int) else (r : Int)) ∧ place (bk (Ieee.single.word s r)) = (if s then -(wr r : Int) else (wr r : Int)) ∧ rung (bk (Ieee.single.word s r)) = wr r ∧ sgn (bk (Ieee.single.word s r)) = s ∧ bk (Ieee.single.word s r) < 18446744073709551616 ∧ nanB (bk (Ieee.single.word s r)) = false := by
  obtain ⟨g1, g2, g3, g4⟩ := s_word s r hr
  obtain ⟨h1, h2, h3, h4⟩ := bk_parts g4
  refine ⟨by unfold S.place; rw [g1, g2], by unfold place; rw [h1, h2, g1, g2], by rw [h1, g1], by rw [h2, g2], h3, h4⟩
theorem gt_false {k l : Nat} (hk : k ≤ 9218868437227405312) (hl : l ≤ 9218868437227405312) (h : k ≤ l) : (FloatKind.f64.format.order k l == some .gt) = false := by
  rw [gt_num (by omega) (by omega) (nan_small (by omega)) (nan_small (by omega)), place_small (by omega), place_small (by omega)]
  exact decide_eq_false (by omega)
theorem inf_eq {b : Nat} (hn : nanB b = false) : (FloatKind.f64.format.order (rung b) 9218868437227405312 == some .eq) = decide (rung b = 9218868437227405312) := by
  have hr : rung b ≤ 9218868437227405312 := by unfold nanB at hn; simpa using hn
  rw [eq_num (by omega) (by omega) (nan_small (by omega)) (by decide), place_small (by omega), place_small (by omega)]
  rw [decide_eq_decide]; omega
theorem sides_same (x : Nat) (hx : x < 18446744073709551616) (nx : nanB x = false) (h1 : toS x 1 = toS x 0) (h2 : toS x 2 = toS x 0) (h3 : toS x 3 = toS x 0) (hp : place (bk (toS x 0)) = place x) (w : World) (hT : TabW w) :
    Calls Tryd.prog 7 #[.float .f64 x] w fun r w' => r = .returned (.bool true) ∧ Below w.heap.size w w' := by
  obtain ⟨n1, l1, s1⟩ := toS_ok x 0
  obtain ⟨_, _, b3, b4⟩ := bk_parts n1
  have e1 := eq_num b3 b3 b4 b4
  have e2 := eq_num hx b3 nx b4
  have e3 := s_eq_num l1 l1 n1 n1
  have e4 := s_ne_num l1 l1 n1 n1
  have z0 : bk 0 = 0 := by decide
  refine sides_walk x (toS x 0) (toS x 0) (toS x 0) (toS x 0) hx nx l1 l1 l1 l1 n1 n1 n1 n1 s1 s1 s1 s1 h1 h2 rfl h3 ?_ ?_ true (decide (0 < place x)) (decide (place x < 0)) (decide (place x = 0)) true true
    (FloatKind.f64.format.order (rung (bk (toS x 0))) 9218868437227405312 == some .eq) (FloatKind.f64.format.order (rung (bk (toS x 0))) 9218868437227405312 == some .eq) true ?_ ?_ (fun h => by cases h) ?_ ?_ ?_ ?_ ?_ ?_ ?_ ?_ rfl rfl 0 0 (fun h => by cases h) (fun h => by cases h) ?_ w hT
  · rw [le_num b3 hx b4 nx]; exact decide_eq_true (by omega)
  · rw [le_num hx b3 nx b4]; exact decide_eq_true (by omega)
  · rw [e1]; exact decide_eq_true rfl
  · rw [e2]; exact decide_eq_true hp.symm
  · rw [e3]; exact decide_eq_true rfl
  · rw [e3]; exact decide_eq_true rfl
  · rw [zero_gt hx, nx]; rfl
  · rw [zero_lt hx, nx]; rfl
  · rw [eq_num hx (by omega) nx (by decide), show place 0 = 0 by decide]
  · intro _; rw [e4]; simp
  · intro _; rw [e4]; simp
  · intro h
    have h0 : place x = 0 := by simpa using h
    rw [s_ne_num l1 (by omega) n1 (by decide)]
    have : S.place (toS x 0) = S.place 0 := (bk_place_eq n1 (by decide)).1 (by rw [hp, z0, h0]; decide)
    rw [this]; simp
  · left
    refine ⟨rfl, rfl, ?_⟩
    rcases (show 0 < place x ∨ place x < 0 ∨ place x = 0 by omega) with h | h | h
    · left; exact ⟨by simpa using h, by simp; omega, by simp; omega⟩
    · right; left; exact ⟨by simp; omega, by simpa using h, by simp; omega⟩
    · right; right; exact ⟨by simp; omega, by simp; omega, by simpa using h⟩
theorem toS_fin {x : Nat} (h0 : rung x ≠ 0) (hf : finB x = true) (m : Int) : toS x m = Ieee.single.word (sgn x) (toSz (rung x) (sgn x) (toDn m (sgn x)) (toUp m (sgn x))) := by
  unfold toS; rw [if_neg h0, if_pos hf]
theorem toSz_four (R : Nat) (s : Bool) : toSz R s (toDn 1 s) (toUp 1 s) = (if s then aS R else zS R) ∧ toSz R s (toDn 2 s) (toUp 2 s) = (if s then zS R else aS R) ∧ toSz R s (toDn 0 s) (toUp 0 s) = nwr R ∧ toSz R s (toDn 3 s) (toUp 3 s) = zS R := by
  unfold toSz toDn toUp
  cases s <;> simp
theorem ip_le {p q : Int} {u v : Nat} (hp : p = u) (hq : q = v) (h : u < v) : p ≤ q := by omega
theorem ip_ne {p q : Int} {u v : Nat} (hp : p = u) (hq : q = v) (h : u < v) : ¬ p = q := by omega
theorem im_le {p q : Int} {u v : Nat} (hp : p = -(u : Int)) (hq : q = -(v : Int)) (h : v < u) : p ≤ q := by omega
theorem im_ne {p q : Int} {u v : Nat} (hp : p = -(u : Int)) (hq : q = -(v : Int)) (h : v < u) : ¬ p = q := by omega
theorem ip_pos {p : Int} {u : Nat} (hp : p = u) (h : u ≠ 0) : 0 < p := by omega
theorem im_neg {p : Int} {u : Nat} (hp : p = -(u : Int)) (h : u ≠ 0) : p < 0 := by omega
theorem ax_next {z a : Nat} (hz : z ≤ 2139095039) (ha : a = z + 1) : min (z : Int) 2139095039 + 1 = a := by omega
theorem ax_next' {z a : Nat} (ha : a = z + 1) : min (-(a : Int)) 2139095039 + 1 = -(z : Int) := by omega
theorem ax_iff (n z : Nat) : ((n : Int) = z) ↔ n = z := by omega
theorem ax_iff' (n z : Nat) : (-(n : Int) = -(z : Int)) ↔ n = z := by omega
theorem ax_or {n z a : Nat} (ha : a = z + 1) (h : n = z ∨ n = a) : ((n : Int) = a) ↔ ¬ n = z := by omega
theorem ax_or' {n z a : Nat} (ha : a = z + 1) (h : n = z ∨ n = a) : (-(n : Int) = -(z : Int)) ↔ ¬ n = a := by omega
theorem ax_lt {a : Nat} (h : a ≤ 2139095040) (g : ¬ a = 2139095040) : a < 2139095040 := by omega
theorem ax_mid {R z a : Nat} (h : 2 * R ≤ z + a) : R - z ≤ a - R := by omega
theorem ax_mid' {R z a : Nat} (h : z + a ≤ 2 * R) : a - R ≤ R - z := by omega
theorem ax_sub {u v : Nat} (h : v < u) : (u : Int) - (v : Int) = ((u - v : Nat) : Int) := by omega
theorem ax_sub' {u v : Nat} (h : v < u) : -(v : Int) - -(u : Int) = ((u - v : Nat) : Int) := by omega
theorem ax_pick {n z a : Nat} (h3 : n = z ∨ n = a) (h : (!decide (n = z)) = true) : n = a := by
  rcases h3 with e | e
  · rw [decide_eq_true e] at h; cases h
  · exact e
theorem ax_pick' {n z a : Nat} (h3 : n = z ∨ n = a) (h : (!decide (n = a)) = true) : n = z := by
  rcases h3 with e | e
  · exact e
  · rw [decide_eq_true e] at h; cases h
theorem wr_inf {r : Nat} (h : r ≤ 2139095040) : wr r = 9218868437227405312 ↔ r = 2139095040 := by
  constructor
  · intro e
    rcases Nat.lt_or_ge r 2139095040 with h4 | h4
    · exfalso
      have h5 := wd_fin h4
      rw [(wr_val h4).1] at e
      omega
    · omega
  · intro e; rw [e]; unfold wr; rw [if_pos rfl]
theorem wd_finB {b r : Nat} (h : r < 2139095040) (hb : rung b = wr r) : finB b = true := by
  unfold finB
  rw [hb, (wr_val h).1]
  have := wd_fin h
  simp; omega
theorem ge_of {R : Nat} (h : R < 9218868437227405312) : (FloatKind.f64.format.order R 5183643170835005440 == some .gt || FloatKind.f64.format.order R 5183643170835005440 == some .eq) = decide (5183643170835005440 ≤ R) := by
  rw [ge_tg (by omega) (nan_small (by omega)), place_small (by omega)]
  rw [decide_eq_decide]; omega
theorem tg_iff {R : Nat} (h0 : R ≠ 0) : nwr R = 2139095040 ↔ 5183643170835005440 ≤ R := by
  constructor
  · intro h
    rcases Nat.lt_or_ge R 5183643170835005440 with h7 | h7
    · exact absurd h (Nat.ne_of_lt (tg_less h0 h7))
    · exact h7
  · exact tg_great
set_option maxHeartbeats 2000000 in
theorem sides_two (x : Nat) (hx : x < 18446744073709551616) (h0 : rung x ≠ 0) (hf : finB x = true) (ha : aS (rung x) = zS (rung x) + 1) (h1 : wr (zS (rung x)) < rung x) (h2 : rung x < wr (aS (rung x))) (h3 : nwr (rung x) = zS (rung x) ∨ nwr (rung x) = aS (rung x)) (w : World) (hT : TabW w) :
    Calls Tryd.prog 7 #[.float .f64 x] w fun r w' => r = .returned (.bool true) ∧ Below w.heap.size w w' := by
  have hR := fin_rung hf
  have nx : nanB x = false := rung_nan (Nat.le_of_lt hR)
  have zl := zS_le (rung x)
  have al := aS_le (rung x)
  have nl := nwr_le (rung x)
  have hz : wr (zS (rung x)) < 9218868437227405312 := Nat.lt_trans h1 hR
  have hge := ge_of hR
  have near := near_less h0 ha
  have vz := val_lt h1
  obtain ⟨f1, f2, f3, f4⟩ := toSz_four (rung x) (sgn x)
  have t1 := toS_fin h0 hf 1
  have t2 := toS_fin h0 hf 2
  have t3 := toS_fin h0 hf 0
  have t4 := toS_fin h0 hf 3
  rw [f1] at t1
  rw [f2] at t2
  rw [f3] at t3
  rw [f4] at t4
  clear f1 f2 f3 f4
  have nn : ∀ m, S.nanB (toS x m) = false := fun m => (toS_ok x m).1
  have nl' : ∀ m, toS x m < 4294967296 := fun m => (toS_ok x m).2.1
  have ns : ∀ m, S.sgn (toS x m) = sgn x := fun m => (toS_ok x m).2.2
  have hpx : place x = if sgn x then -(rung x : Int) else (rung x : Int) := rfl
  obtain ⟨pz1, pz2, pz3, pz4, pz5, pz6⟩ := pw_word (sgn x) (Nat.le_succ_of_le zl)
  obtain ⟨pa1, pa2, pa3, pa4, pa5, pa6⟩ := pw_word (sgn x) al
  obtain ⟨pn1, _, pn3, _, _, pn6⟩ := pw_word (sgn x) nl
  have fz : finB (bk (Ieee.single.word (sgn x) (zS (rung x)))) = true := wd_finB (Nat.lt_succ_of_le zl) pz3
  have t1 : toS x 1 = if sgn x then Ieee.single.word (sgn x) (aS (rung x)) else Ieee.single.word (sgn x) (zS (rung x)) := by rw [t1]; split <;> rfl
  have t2 : toS x 2 = if sgn x then Ieee.single.word (sgn x) (zS (rung x)) else Ieee.single.word (sgn x) (aS (rung x)) := by rw [t2]; split <;> rfl
  generalize Ieee.single.word (sgn x) (zS (rung x)) = Zw at *
  generalize Ieee.single.word (sgn x) (aS (rung x)) = Aw at *
  generalize Ieee.single.word (sgn x) (nwr (rung x)) = Nw at *
  cases s : sgn x
  · rw [s] at t1 t2 pz1 pz2 pz4 pa1 pa2 pa4 pn1 hpx
    simp only [Bool.false_eq_true, if_false] at t1 t2 pz1 pz2 pa1 pa2 pn1 hpx
    have hk : ∃ k1 k2, aS (rung x) < 2139095040 → (floatBits .sub .f64 x (bk (toS x 1)) = some k1 ∧ floatBits .sub .f64 (bk (toS x 2)) x = some k2 ∧ (nwr (rung x) = zS (rung x) → (FloatKind.f64.format.order k1 k2 == some .gt) = false) ∧ (nwr (rung x) = aS (rung x) → (FloatKind.f64.format.order k2 k1 == some .gt) = false)) := by
      by_cases hl : aS (rung x) < 2139095040
      · have va := val_lt h2
        have fa := wd_finB hl pa3
        obtain ⟨n1, n2⟩ := near hl
        obtain ⟨k1, e1, c1, r1⟩ := sub_round (d := val (rung x) - val (wr (zS (rung x)))) hx pz5 hf fz (Nat.sub_pos_of_lt vz) (by rw [s, pz3, pz4]; simp only [Bool.false_eq_true, if_false]; exact ax_sub vz)
        obtain ⟨k2, e2, c2, r2⟩ := sub_round (d := val (wr (aS (rung x))) - val (rung x)) pa5 hx fa hf (Nat.sub_pos_of_lt va) (by rw [s, pa3, pa4]; simp only [Bool.false_eq_true, if_false]; exact ax_sub va)
        refine ⟨k1, k2, fun _ => ⟨by rw [t1]; exact e1, by rw [t2]; exact e2, fun h => gt_false c1 c2 (round_mono (ax_mid (n1 h)) c1 r1 r2), fun h => gt_false c2 c1 (round_mono (ax_mid' (n2 h)) c2 r2 r1)⟩⟩
      · exact ⟨0, 0, fun h => absurd h hl⟩
    obtain ⟨k1, k2, hk⟩ := hk
    refine sides_walk x (toS x 1) (toS x 2) (toS x 0) (toS x 3) hx nx (nl' 1) (nl' 2) (nl' 0) (nl' 3) (nn 1) (nn 2) (nn 0) (nn 3) (ns 1) (ns 2) (ns 0) (ns 3) rfl rfl rfl rfl ?_ ?_ false true false false (decide (nwr (rung x) = zS (rung x))) (!decide (nwr (rung x) = zS (rung x))) false (decide (aS (rung x) = 2139095040)) (decide (5183643170835005440 ≤ rung x)) ?_ ?_ (fun _ => ?_) ?_ ?_ ?_ ?_ ?_ (fun _ => ?_) (fun h => by cases h) (fun h => by cases h) ?_ ?_ k1 k2 (fun _ _ h => ?_) (fun _ h => ?_) (Or.inr ⟨rfl, rfl, rfl, by simp, rfl⟩) w hT
    · rw [t1, le_num pz5 hx pz6 nx]; exact decide_eq_true (ip_le pz2 hpx h1)
    · rw [t2, le_num hx pa5 nx pa6]; exact decide_eq_true (ip_le hpx pa2 h2)
    · rw [t1, t2, eq_num pz5 pa5 pz6 pa6]; exact decide_eq_false (ip_ne pz2 pa2 (Nat.lt_trans h1 h2))
    · rw [t1, eq_num hx pz5 nx pz6]; exact decide_eq_false (fun e => ip_ne pz2 hpx h1 e.symm)
    · obtain ⟨x1, x2, x3⟩ := s_next_up (nn 1)
      rw [s_ne_num x3 (nl' 2) x2 (nn 2), x1, t1, t2, pz1, pa1, ax_next zl ha]; simp
    · rw [s_eq_num (nl' 0) (nl' 1) (nn 0) (nn 1), t3, t1, pn1, pz1, decide_eq_decide]; exact ax_iff _ _
    · rw [s_eq_num (nl' 0) (nl' 2) (nn 0) (nn 2), t3, t2, pn1, pa1, ← decide_not, decide_eq_decide]; exact ax_or ha h3
    · rw [zero_gt hx, nx, decide_eq_true (ip_pos hpx h0)]; rfl
    · rw [zero_lt hx, nx, decide_eq_false (Int.not_lt.2 (Int.le_of_lt (ip_pos hpx h0)))]; rfl
    · rw [eq_num hx (by decide) nx (by decide), show place 0 = 0 by decide]; exact decide_eq_false (fun e => by have := ip_pos hpx h0; rw [e] at this; exact absurd this (by decide))
    · rw [s_ne_num (nl' 3) (nl' 1) (nn 3) (nn 1), t4, t1]; simp
    · rw [t1, inf_eq pz6, pz3]; exact decide_eq_false (Nat.ne_of_lt hz)
    · rw [t2, inf_eq pa6, pa3, decide_eq_decide]; exact wr_inf al
    · obtain ⟨a1, a2, a3, a4⟩ := hk (ax_lt al (of_decide_eq_false h))
      exact ⟨a1, a2, fun h => a3 (of_decide_eq_true h), fun h => a4 (ax_pick h3 h)⟩
    · refine ⟨?_, hge⟩
      rw [t3, inf_eq pn6, pn3, decide_eq_decide, wr_inf nl]; exact tg_iff h0
  · rw [s] at t1 t2 pz1 pz2 pz4 pa1 pa2 pa4 pn1 hpx
    simp only [if_true] at t1 t2 pz1 pz2 pa1 pa2 pn1 hpx
    have hk : ∃ k1 k2, aS (rung x) < 2139095040 → (floatBits .sub .f64 x (bk (toS x 1)) = some k1 ∧ floatBits .sub .f64 (bk (toS x 2)) x = some k2 ∧ (nwr (rung x) = aS (rung x) → (FloatKind.f64.format.order k1 k2 == some .gt) = false) ∧ (nwr (rung x) = zS (rung x) → (FloatKind.f64.format.order k2 k1 == some .gt) = false)) := by
      by_cases hl : aS (rung x) < 2139095040
      · have va := val_lt h2
        have fa := wd_finB hl pa3
        obtain ⟨n1, n2⟩ := near hl
        obtain ⟨k1, e1, c1, r1⟩ := sub_round (d := val (wr (aS (rung x))) - val (rung x)) hx pa5 hf fa (Nat.sub_pos_of_lt va) (by rw [s, pa3, pa4]; simp only [if_true]; exact ax_sub' va)
        obtain ⟨k2, e2, c2, r2⟩ := sub_round (d := val (rung x) - val (wr (zS (rung x)))) pz5 hx fz hf (Nat.sub_pos_of_lt vz) (by rw [s, pz3, pz4]; simp only [if_true]; exact ax_sub' vz)
        refine ⟨k1, k2, fun _ => ⟨by rw [t1]; exact e1, by rw [t2]; exact e2, fun h => gt_false c1 c2 (round_mono (ax_mid' (n2 h)) c1 r1 r2), fun h => gt_false c2 c1 (round_mono (ax_mid (n1 h)) c2 r2 r1)⟩⟩
      · exact ⟨0, 0, fun h => absurd h hl⟩
    obtain ⟨k1, k2, hk⟩ := hk
    refine sides_walk x (toS x 1) (toS x 2) (toS x 0) (toS x 3) hx nx (nl' 1) (nl' 2) (nl' 0) (nl' 3) (nn 1) (nn 2) (nn 0) (nn 3) (ns 1) (ns 2) (ns 0) (ns 3) rfl rfl rfl rfl ?_ ?_ false false true false (decide (nwr (rung x) = aS (rung x))) (!decide (nwr (rung x) = aS (rung x))) (decide (aS (rung x) = 2139095040)) false (decide (5183643170835005440 ≤ rung x)) ?_ ?_ (fun _ => ?_) ?_ ?_ ?_ ?_ ?_ (fun h => by cases h) (fun _ => ?_) (fun h => by cases h) ?_ ?_ k1 k2 (fun _ h _ => ?_) (fun _ h => ?_) (Or.inr ⟨rfl, rfl, rfl, by simp, by simp⟩) w hT
    · rw [t1, le_num pa5 hx pa6 nx]; exact decide_eq_true (im_le pa2 hpx h2)
    · rw [t2, le_num hx pz5 nx pz6]; exact decide_eq_true (im_le hpx pz2 h1)
    · rw [t1, t2, eq_num pa5 pz5 pa6 pz6]; exact decide_eq_false (im_ne pa2 pz2 (Nat.lt_trans h1 h2))
    · rw [t1, eq_num hx pa5 nx pa6]; exact decide_eq_false (fun e => im_ne pa2 hpx h2 e.symm)
    · obtain ⟨x1, x2, x3⟩ := s_next_up (nn 1)
      rw [s_ne_num x3 (nl' 2) x2 (nn 2), x1, t1, t2, pz1, pa1, ax_next' ha]; simp
    · rw [s_eq_num (nl' 0) (nl' 1) (nn 0) (nn 1), t3, t1, pn1, pa1, decide_eq_decide]; exact ax_iff' _ _
    · rw [s_eq_num (nl' 0) (nl' 2) (nn 0) (nn 2), t3, t2, pn1, pz1, ← decide_not, decide_eq_decide]; exact ax_or' ha h3
    · rw [zero_gt hx, nx, decide_eq_false (Int.not_lt.2 (Int.le_of_lt (im_neg hpx h0)))]; rfl
    · rw [zero_lt hx, nx, decide_eq_true (im_neg hpx h0)]; rfl
    · rw [eq_num hx (by decide) nx (by decide), show place 0 = 0 by decide]; exact decide_eq_false (fun e => by have := im_neg hpx h0; rw [e] at this; exact absurd this (by decide))
    · rw [s_ne_num (nl' 3) (nl' 2) (nn 3) (nn 2), t4, t2]; simp
    · rw [t1, inf_eq pa6, pa3, decide_eq_decide]; exact wr_inf al
    · rw [t2, inf_eq pz6, pz3]; exact decide_eq_false (Nat.ne_of_lt hz)
    · obtain ⟨a1, a2, a3, a4⟩ := hk (ax_lt al (of_decide_eq_false h))
      exact ⟨a1, a2, fun h => a3 (of_decide_eq_true h), fun h => a4 (ax_pick' h3 h)⟩
    · refine ⟨?_, hge⟩
      rw [t3, inf_eq pn6, pn3, decide_eq_decide, wr_inf nl]; exact tg_iff h0
set_option maxRecDepth 100000 in
set_option maxHeartbeats 1600000 in
theorem sides_nan (x : Nat) (hx : x < 18446744073709551616) (nx : nanB x = true) (w : World) :
    Calls Tryd.prog 7 #[.float .f64 x] w fun r w' => r = .returned (.bool true) ∧ Below w.heap.size w w' := by
  have o0 : (FloatKind.f64.format.order x x != some .eq) = true := (ord_self x hx).trans nx
  have bz := Below.refl w.heap.size w
  have T := fun m w => n_to_nan x m hx nx w
  go_enter Tryd.func7, Tryd.ntmps7
  go_wp2_with (first
    | (go_at_call_of 12 (Value.int IntKind.i8 1); refine (T _ _).mono ?_; rintro e w1 ⟨a, rfl, na, la, bn⟩; have oa := (s_ne_self a la).trans na; have bz := bz.trans (bn.mono bz.size))
    | (go_at_call_of 12 (Value.int IntKind.i8 2); refine (T _ _).mono ?_; rintro e w2 ⟨b, rfl, nb, lb, bn⟩; have ob := (s_ne_self b lb).trans nb; have bz := bz.trans (bn.mono bz.size))
    | (go_at_call_of 12 (Value.int IntKind.i8 0); refine (T _ _).mono ?_; rintro e w3 ⟨c, rfl, nc, lc, bn⟩; have oc := (s_ne_self c lc).trans nc; have bz := bz.trans (bn.mono bz.size))
    | (go_at_call_of 12 (Value.int IntKind.i8 3); refine (T _ _).mono ?_; rintro e w4 ⟨d, rfl, nd, ld, bn⟩; have od := (s_ne_self d ld).trans nd; have bz := bz.trans (bn.mono bz.size))
    | (go_at_call 25; refine (n_awake _).mono ?_; rintro e w' ⟨rfl, rfl⟩))
  go_ret
  exact ⟨rfl, bz⟩
theorem law_sides (x : Nat) (hx : x < 18446744073709551616) (w : World) (hT : TabW w) :
    Calls Tryd.prog 7 #[.float .f64 x] w fun r w' => r = .returned (.bool true) ∧ Below w.heap.size w w' := by
  cases nx : nanB x
  · by_cases h0 : rung x = 0
    · have e : ∀ m, toS x m = Ieee.single.word (sgn x) 0 := fun m => by unfold toS; rw [if_pos h0]
      refine sides_same x hx nx (by rw [e, e]) (by rw [e, e]) (by rw [e, e]) ?_ w hT
      rw [e, (pw_word (sgn x) (show 0 ≤ 2139095040 by omega)).2.1, wr_zero]
      unfold place
      rw [h0]
    · by_cases hf : finB x = true
      · rcases sides_of h0 (fin_rung hf) with ⟨a, b, c⟩ | ⟨a, b, c, d⟩
        · obtain ⟨f1, f2, f3, f4⟩ := toSz_four (rung x) (sgn x)
          have t1 := toS_fin h0 hf 1
          have t2 := toS_fin h0 hf 2
          have t3 := toS_fin h0 hf 0
          have t4 := toS_fin h0 hf 3
          rw [f1, ← a, ite_self] at t1
          rw [f2, ← a, ite_self] at t2
          rw [f3, c] at t3
          rw [f4] at t4
          refine sides_same x hx nx (by rw [t1, t3]) (by rw [t2, t3]) (by rw [t4, t3]) ?_ w hT
          have zl := zS_le (rung x)
          rw [t3, (pw_word (sgn x) (show zS (rung x) ≤ 2139095040 by omega)).2.1, b]
          rfl
        · exact sides_two x hx h0 hf a b c d w hT
      · have hr : rung x ≤ 9218868437227405312 := by unfold nanB at nx; simpa using nx
        have hi : rung x = 9218868437227405312 := by unfold finB at hf; simp at hf; omega
        have e : ∀ m, toS x m = Ieee.single.word (sgn x) 2139095040 := fun m => by unfold toS; rw [if_neg h0, if_neg hf]
        refine sides_same x hx nx (by rw [e, e]) (by rw [e, e]) (by rw [e, e]) ?_ w hT
        rw [e, (pw_word (sgn x) (show 2139095040 ≤ 2139095040 by omega)).2.1]
        unfold place
        rw [hi]; rfl
  · exact sides_nan x hx nx w
end Go.Proofs.YtoggdckaimbjeaaDoor
