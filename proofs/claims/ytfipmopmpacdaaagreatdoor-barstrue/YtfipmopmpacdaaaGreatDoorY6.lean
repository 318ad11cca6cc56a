/- What the reference's Plus answers: a number of the sum's value. -/
import Derived.Test.YtfipmopmpacdaaaGreatDoorZn
import Derived.Test.YtfipmopmpacdaaaGreatDoorZo
namespace Go.Proofs.YtfipmopmpacdaaaGreatDoor
open Go.RowKit
def GaveM (w : World) (d : Dy) (e : Ending) (w' : World) : Prop :=
 ∃ ao cap, e = .returned (.agg #[.bool d.neg, .slice ao d.mag.length cap, .int .i64 d.exp]) ∧ NS w' ao cap d.mag ∧ Frs w.heap.size ao ∧ Below w.heap.size w w'
theorem bl_none {v : Nat} : bl v = 0 ↔ v = 0 := by
 constructor
 ·intro h
  by_cases h0 : v = 0
  ·exact h0
  ·have := bl_pos h0; omega
 ·intro h; rw [h, bl_zero]
set_option maxHeartbeats 400000 in
theorem zero_any (d : Dy) (ao : Option Addr) (cap : Nat) (w : World) (hr : NS w ao cap d.mag) (hL : Lm d.mag) (hn : d.mag.length ≤ 17592186044416) :
  Calls Tryz.prog 40 #[.agg #[.bool d.neg, .slice ao d.mag.length cap, .int .i64 d.exp]] w fun e w' => e = .returned (.bool (vl d.mag == 0)) ∧ Below w.heap.size w w' := by
 have hB := fun w' (h : NS w' ao cap d.mag) => natBits_any d.mag ao cap w' h hL hn
 have HE : Hid ((((bl (vl d.mag) : Nat) : Int) == 0) = (vl d.mag == 0)) := (show _ = _ by rw [Bool.eq_iff_iff]; simp; exact bl_none)
 obtain ⟨neg, xs, ex⟩ := d
 simp only at *
 go_enter Tryz.func40, Tryz.ntmps40
 go_wp2_with (go_at_call 41; refine (hB _ (hr.below ((Below.refl _ _).alloc (Nat.le_refl _) _))).mono ?_; rintro e w1 ⟨rfl, hb⟩)
 go_ret
 exact ⟨retB HE.out, ((Below.refl _ _).alloc (Nat.le_refl _) _).trans (hb.mono (by simp))⟩
set_option maxHeartbeats 1000000 in
theorem nsign_any (d : Dy) (ao : Option Addr) (cap : Nat) (w : World) (hr : NS w ao cap d.mag) (hL : Lm d.mag) (hn : d.mag.length ≤ 17592186044416) :
  Calls Tryz.prog 21 #[.agg #[.bool d.neg, .slice ao d.mag.length cap, .int .i64 d.exp]] w fun e w' => e = .returned (.int .i64 (sgI (sv d))) ∧ Below w.heap.size w w' := by
 have hB := fun w' (h : NS w' ao cap d.mag) => zero_any d ao cap w' h hL hn
 have HE : Hid (sgI (sv d) = if vl d.mag == 0 then 0 else if d.neg then -1 else 1) := (show _ = _ by
  unfold sgI sv
  cases d.neg <;> by_cases h : vl d.mag = 0 <;> simp [h] <;> omega)
 cases hz : (vl d.mag == 0) <;> rw [hz] at hB HE
 ·cases hneg : d.neg <;> rw [hneg] at hB HE
  all_goals
   obtain ⟨neg, xs, ex⟩ := d
   simp only at *
   clear hz hneg
   go_enter Tryz.func21, Tryz.ntmps21
   go_wp2_with (go_at_call 40; refine (hB _ (hr.below ((Below.refl _ _).alloc (Nat.le_refl _) _))).mono ?_; rintro e w1 ⟨rfl, hb⟩; obtain ⟨⟨c0, c1, c2⟩, ho1⟩ := one_box hb)
   go_ret
   exact ⟨retI HE.out.symm, ho1⟩
 ·obtain ⟨neg, xs, ex⟩ := d
  simp only at *
  clear hz
  go_enter Tryz.func21, Tryz.ntmps21
  go_wp2_with (go_at_call 40; refine (hB _ (hr.below ((Below.refl _ _).alloc (Nat.le_refl _) _))).mono ?_; rintro e w1 ⟨rfl, hb⟩; obtain ⟨⟨c0, c1, c2⟩, ho1⟩ := one_box hb)
  go_ret
  exact ⟨retI HE.out.symm, ho1⟩
set_option maxHeartbeats 1000000 in
theorem minus_any (d : Dy) (ao : Option Addr) (cap : Nat) (w : World) :
  Calls Tryz.prog 24 #[.agg #[.bool d.neg, .slice ao d.mag.length cap, .int .i64 d.exp]] w fun e w' => e = .returned (.agg #[.bool (!d.neg), .slice ao d.mag.length cap, .int .i64 d.exp]) ∧ Below w.heap.size w w' := by
 obtain ⟨neg, xs, ex⟩ := d
 simp only at *
 have hend : ∀ o1 o2, Below w.heap.size w ((w.alloc o1).alloc o2) := fun o1 o2 => (((Below.refl _ _).alloc (Nat.le_refl _) o1).alloc (by simp) o2)
 go_enter Tryz.func24, Tryz.ntmps24
 go_wp2
 exact bodyPost_ret (v := .agg #[.bool (!neg), .slice ao xs.length cap, .int .i64 ex]) (by simp [results, Tryz.results24, go_sem]) rfl ⟨rfl, hend _ _⟩
theorem bx3 {w w1 : World} {x0 x1 x2 y0 y1 y2 z0 z1 z2 : Value} {s t u : TypeId} (hb : Below (((w.alloc (.cells #[x0, x1, x2] s)).alloc (.cells #[y0, y1, y2] t)).alloc (.cells #[z0, z1, z2] u)).heap.size (((w.alloc (.cells #[x0, x1, x2] s)).alloc (.cells #[y0, y1, y2] t)).alloc (.cells #[z0, z1, z2] u)) w1) :
  (w1.cell? ⟨w.heap.size, 0, none⟩ = some x0 ∧ w1.cell? ⟨w.heap.size, 1, none⟩ = some x1 ∧ w1.cell? ⟨w.heap.size, 2, none⟩ = some x2) ∧
  (w1.cell? ⟨w.heap.size + 1, 0, none⟩ = some y0 ∧ w1.cell? ⟨w.heap.size + 1, 1, none⟩ = some y1 ∧ w1.cell? ⟨w.heap.size + 1, 2, none⟩ = some y2) ∧
  (w1.cell? ⟨w.heap.size + 1 + 1, 0, none⟩ = some z0 ∧ w1.cell? ⟨w.heap.size + 1 + 1, 1, none⟩ = some z1 ∧ w1.cell? ⟨w.heap.size + 1 + 1, 2, none⟩ = some z2) ∧
  (w1.frozen? ⟨w.heap.size + 1 + 1, 0, none⟩ = false ∧ w1.frozen? ⟨w.heap.size + 1 + 1, 1, none⟩ = false ∧ w1.frozen? ⟨w.heap.size + 1 + 1, 2, none⟩ = false) ∧ Below w.heap.size w w1 := by
 obtain ⟨hc, hf⟩ := oldc hb
 have l0 : w.heap.size < (((w.alloc (.cells #[x0, x1, x2] s)).alloc (.cells #[y0, y1, y2] t)).alloc (.cells #[z0, z1, z2] u)).heap.size := by go_simp
 have l1 : w.heap.size + 1 < (((w.alloc (.cells #[x0, x1, x2] s)).alloc (.cells #[y0, y1, y2] t)).alloc (.cells #[z0, z1, z2] u)).heap.size := by go_simp
 have l2 : w.heap.size + 1 + 1 < (((w.alloc (.cells #[x0, x1, x2] s)).alloc (.cells #[y0, y1, y2] t)).alloc (.cells #[z0, z1, z2] u)).heap.size := by go_simp
 have h0 : Below w.heap.size w (((w.alloc (.cells #[x0, x1, x2] s)).alloc (.cells #[y0, y1, y2] t)).alloc (.cells #[z0, z1, z2] u)) := (((Below.refl _ _).alloc (Nat.le_refl _) _).alloc (by simp) _).alloc (by simp; omega) _
 refine ⟨⟨?_, ?_, ?_⟩, ⟨?_, ?_, ?_⟩, ⟨?_, ?_, ?_⟩, ⟨?_, ?_, ?_⟩, h0.trans (hb.mono h0.size)⟩
 ·rw [hc _ _ l0]; go_simp
 ·rw [hc _ _ l0]; go_simp
 ·rw [hc _ _ l0]; go_simp
 ·rw [hc _ _ l1]; go_simp
 ·rw [hc _ _ l1]; go_simp
 ·rw [hc _ _ l1]; go_simp
 ·rw [hc _ _ l2]; go_simp
 ·rw [hc _ _ l2]; go_simp
 ·rw [hc _ _ l2]; go_simp
 ·rw [hf _ _ l2]; go_simp
 ·rw [hf _ _ l2]; go_simp
 ·rw [hf _ _ l2]; go_simp
theorem al3 {w : World} {o1 o2 o3 : Obj} : Below w.heap.size w (((w.alloc o1).alloc o2).alloc o3) := (((Below.refl _ _).alloc (Nat.le_refl _) _).alloc (by simp) _).alloc (by simp; omega) _
set_option maxHeartbeats 2000000 in
theorem times_any (a b : Dy) (ao bo : Option Addr) (cap bcap : Nat) (w : World) (hr : NS w ao cap a.mag) (hs : NS w bo bcap b.mag) (hL : Lm a.mag) (hM : Lm b.mag) (hn : a.mag.length ≤ 1099511627776) (hm : b.mag.length ≤ 1099511627776) (he : -4611686018427387904 ≤ a.exp ∧ a.exp ≤ 4611686018427387903) (hf : -4611686018427387904 ≤ b.exp ∧ b.exp ≤ 4611686018427387903) :
  Calls Tryz.prog 19 #[.agg #[.bool a.neg, .slice ao a.mag.length cap, .int .i64 a.exp], .agg #[.bool b.neg, .slice bo b.mag.length bcap, .int .i64 b.exp]] w (GaveM w ⟨a.neg != b.neg, lo (vl a.mag * vl b.mag), a.exp + b.exp⟩) := by
 have hT := fun w' (h1 : NS w' ao cap a.mag) (h2 : NS w' bo bcap b.mag) => natMul_any a.mag b.mag ao bo cap bcap w' h1 h2 hL hM hn hm
 obtain ⟨n1, xs, ex⟩ := a
 obtain ⟨n2, ys, ey⟩ := b
 simp only at *
 have hr2 := hr.below (al3 (o1 := .cells #[.bool n1, .slice ao xs.length cap, .int .i64 ex] 49) (o2 := .cells #[.bool n2, .slice bo ys.length bcap, .int .i64 ey] 49) (o3 := .cells #[.bool false, .slice none 0 0, .int .i64 0] 49)).drew
 have hs2 := hs.below (al3 (o1 := .cells #[.bool n1, .slice ao xs.length cap, .int .i64 ex] 49) (o2 := .cells #[.bool n2, .slice bo ys.length bcap, .int .i64 ey] 49) (o3 := .cells #[.bool false, .slice none 0 0, .int .i64 0] 49)).drew
 have hwr : IntKind.i64.wrap (ex + ey) = ex + ey := by rw [IntKind.wrap_i64]; omega
 have q1 : ¬ w.heap.size + 1 + 1 = w.heap.size := by omega
 have q2 : ¬ w.heap.size = w.heap.size + 1 + 1 := by omega
 go_enter Tryz.func19, Tryz.ntmps19
 go_wp2
 go_region_held3 (fun w' => w'.cell? ⟨w.heap.size, 0, none⟩ = some (.bool n1) ∧ w'.cell? ⟨w.heap.size, 1, none⟩ = some (.slice ao xs.length cap) ∧ w'.cell? ⟨w.heap.size, 2, none⟩ = some (.int .i64 ex) ∧ w'.cell? ⟨w.heap.size + 1, 0, none⟩ = some (.bool n2) ∧ w'.cell? ⟨w.heap.size + 1, 1, none⟩ = some (.slice bo ys.length bcap) ∧ w'.cell? ⟨w.heap.size + 1, 2, none⟩ = some (.int .i64 ey)) (go_keep)
  (first | (go_at_call 38; refine (hT _ hr2 hs2).mono ?_; rintro e w1 ⟨ao1, cap1, rfl, h1, f1, b1⟩; replace b1 := undrew b1; obtain ⟨⟨c0, c1, c2⟩, ⟨d0, d1, d2⟩, ⟨e0, e1, e2⟩, ⟨k0, k1, k2⟩, hB⟩ := bx3 b1))
 clear c0 c1 c2 d0 d1 d2 hr2 hs2
 have hfr2 : Frs (w.heap.size + 3) ao1 := f1.mono (by simp)
 go_wp2
 refine bodyPost_ret (v := .agg #[.bool (!(n1 == n2)), .slice ao1 (lo (vl xs * vl ys)).length cap1, .int .i64 (ex + ey)]) (by simp [results, Tryz.results19, go_sem, e0, e1, e2]) rfl ⟨ao1, cap1, rfl, ?_, hfr2.mono (by omega), ((hB.setCell (by simp; omega) _).setCell (by simp; omega) _).setCell (by simp; omega) _⟩
 exact ⟨((h1.1.box hfr2 (by omega) _ _).box hfr2 (by omega) _ _).box hfr2 (by omega) _ _, h1.2⟩
set_option maxHeartbeats 1000000 in
theorem ntop_any (d : Dy) (ao : Option Addr) (cap : Nat) (w : World) (hr : NS w ao cap d.mag) (hL : Lm d.mag) (hn : d.mag.length ≤ 17592186044416) (he : -4611686018427387904 ≤ d.exp ∧ d.exp ≤ 4611686018427387903) :
  Calls Tryz.prog 22 #[.agg #[.bool d.neg, .slice ao d.mag.length cap, .int .i64 d.exp]] w fun e w' => e = .returned (.int .i64 (d.exp + (bl (vl d.mag) : Int))) ∧ Below w.heap.size w w' := by
 have hB := fun w' (h : NS w' ao cap d.mag) => natBits_any d.mag ao cap w' h hL hn
 have hb2 : bl (vl d.mag) ≤ 64 * 17592186044416 := bl_limbs hL hn
 obtain ⟨neg, xs, ex⟩ := d
 simp only at *
 obtain ⟨t, ht⟩ : ∃ t, bl (vl xs) = t := ⟨_, rfl⟩
 rw [ht] at hB hb2 ⊢
 clear ht
 have hwr : IntKind.i64.wrap (ex + (t : Int)) = ex + (t : Int) := by rw [IntKind.wrap_i64]; omega
 have hr2 : NS (w.alloc (.cells #[.bool neg, .slice ao xs.length cap, .int .i64 ex] 49)).drew ao cap xs := hr.below ((Below.refl _ _).alloc (Nat.le_refl _) _).drew
 go_enter Tryz.func22, Tryz.ntmps22
 go_wp2
 go_region_held3 (fun w' => w'.cell? ⟨w.heap.size, 1, none⟩ = some (.slice ao xs.length cap) ∧ w'.cell? ⟨w.heap.size, 2, none⟩ = some (.int .i64 ex)) (go_keep)
  (first | (go_at_call 41; refine (hB _ hr2).mono ?_; rintro e w1 ⟨rfl, b1⟩; replace b1 := undrew b1; obtain ⟨⟨c0, c1, c2⟩, ho1⟩ := one_box b1))
 go_wp2
 go_ret
 exact ⟨rfl, ho1⟩
def PlusV (x y z : Dy) : Prop := Lm z.mag ∧ (z.exp = x.exp ∨ z.exp = y.exp) ∧ ∀ L : Int, L ≤ x.exp → L ≤ y.exp → sv z * 2 ^ (z.exp - L).toNat = sv x * 2 ^ (x.exp - L).toNat + sv y * 2 ^ (y.exp - L).toNat
theorem plusV_swap {x y z : Dy} (h : PlusV y x z) : PlusV x y z := ⟨h.1, h.2.1.symm, fun L h1 h2 => by rw [h.2.2 L h2 h1, Int.add_comm]⟩
theorem sv_zero {d : Dy} (h : vl d.mag = 0) : sv d = 0 := by have := sv_abs d; omega
theorem plusV_left {x y : Dy} (hL : Lm y.mag) (h : vl x.mag = 0) : PlusV x y y := ⟨hL, Or.inr rfl, fun L _ _ => by rw [sv_zero h, Int.zero_mul, Int.zero_add]⟩
theorem plusV_right {x y : Dy} (hL : Lm x.mag) (h : vl y.mag = 0) : PlusV x y x := ⟨hL, Or.inl rfl, fun L _ _ => by rw [sv_zero h, Int.zero_mul, Int.add_zero]⟩
theorem plusV_of {x y z : Dy} {k : Nat} (hL : Lm z.mag) (he : z.exp = x.exp) (hk : y.exp = x.exp + k) (hs : sv z = sv x + sv y * 2 ^ k) : PlusV x y z := by
 refine ⟨hL, Or.inl he, fun L h1 _ => ?_⟩
 rw [he, hs, hk, show (x.exp + (k : Int) - L).toNat = k + (x.exp - L).toNat by omega, Int.pow_add, Int.add_mul, Int.mul_assoc]
theorem up_cast (v k : Nat) : ((v * 2 ^ k : Nat) : Int) = (v : Int) * 2 ^ k := by rw [Int.natCast_mul, Int.natCast_pow]; rfl
theorem plus_same {n : Bool} {xs ys : List Nat} {e f : Int} {k : Nat} (hk : f = e + k) : PlusV ⟨n, xs, e⟩ ⟨n, ys, f⟩ ⟨n, lo (vl xs + vl ys * 2 ^ k), e⟩ := by
 refine plusV_of (lo_lm _) rfl hk ?_
 unfold sv
 simp only [vl_lo]
 have h := up_cast (vl ys) k
 cases n
 ·simp only [Bool.false_eq_true, if_false]; omega
 ·simp only [if_true]; rw [Int.neg_mul]; omega
theorem plus_less {n m : Bool} {xs ys : List Nat} {e f : Int} {k : Nat} (hk : f = e + k) (hnm : n ≠ m) (hle : vl ys * 2 ^ k ≤ vl xs) : PlusV ⟨n, xs, e⟩ ⟨m, ys, f⟩ ⟨n, lo (vl xs - vl ys * 2 ^ k), e⟩ := by
 refine plusV_of (lo_lm _) rfl hk ?_
 unfold sv
 simp only [vl_lo]
 have h := up_cast (vl ys) k
 cases n <;> cases m
 ·exact absurd rfl hnm
 ·simp only [Bool.false_eq_true, if_false, if_true]; rw [Int.neg_mul]; omega
 ·simp only [Bool.false_eq_true, if_false, if_true]; omega
 ·exact absurd rfl hnm
theorem plus_more {n m : Bool} {xs ys : List Nat} {e f : Int} {k : Nat} (hk : f = e + k) (hnm : n ≠ m) (hle : vl xs ≤ vl ys * 2 ^ k) : PlusV ⟨n, xs, e⟩ ⟨m, ys, f⟩ ⟨m, lo (vl ys * 2 ^ k - vl xs), e⟩ := by
 refine plusV_of (lo_lm _) rfl hk ?_
 unfold sv
 simp only [vl_lo]
 have h := up_cast (vl ys) k
 cases n <;> cases m
 ·exact absurd rfl hnm
 ·simp only [Bool.false_eq_true, if_false, if_true]; rw [Int.neg_mul]; omega
 ·simp only [Bool.false_eq_true, if_false, if_true]; omega
 ·exact absurd rfl hnm
theorem LRow.blk3 {w : World} {ao : Option Addr} {xs : List Nat} (h : LRow w ao xs) {b off : Nat} (e : ao = some ⟨b, off, none⟩) (h0 : xs.length ≠ 0) : b < w.heap.size := by
 rcases h with h | ⟨b', off', e', hc⟩
 ·exact absurd h h0
 ·rw [e] at e'
  cases e'
  exact World.block_lt_of_cell? w _ (hc 0 (by omega))
def GaveS (w : World) (ao bo : Option Addr) (x y : Dy) (e : Ending) (w' : World) : Prop :=
 ∃ z zo cap, e = .returned (.agg #[.bool z.neg, .slice zo z.mag.length cap, .int .i64 z.exp]) ∧ PlusV x y z ∧ (z.mag.length ≤ x.mag.length + y.mag.length + 40000 ∧ ((z.mag = lo (vl z.mag) ∧ Frs w.heap.size zo) ∨ (z.mag = x.mag ∧ zo = ao) ∨ (z.mag = y.mag ∧ zo = bo))) ∧ (∀ N : Nat, (∀ p, ao = some p → x.mag.length ≠ 0 → p.block < N) → (∀ p, bo = some p → y.mag.length ≠ 0 → p.block < N) → ∀ p, zo = some p → z.mag.length ≠ 0 → p.block < N ∨ w.heap.size ≤ p.block) ∧ NS w' zo cap z.mag ∧ Below w.heap.size w w'
theorem plus_lens {xs ys : List Nat} {k : Nat} (hL : Lm xs) (hM : Lm ys) (hn : xs.length ≤ 1000000) (hm : ys.length ≤ 1000000) (hk : k ≤ 2000000) :
  (lo (vl ys * 2 ^ k)).length ≤ 3000000 ∧ ((lo (vl xs + vl ys * 2 ^ k)).length ≤ xs.length + ys.length + 40000 ∧ lo (vl xs + vl ys * 2 ^ k) = lo (vl (lo (vl xs + vl ys * 2 ^ k)))) ∧ ((lo (vl xs - vl ys * 2 ^ k)).length ≤ xs.length + ys.length + 40000 ∧ lo (vl xs - vl ys * 2 ^ k) = lo (vl (lo (vl xs - vl ys * 2 ^ k)))) ∧ ((lo (vl ys * 2 ^ k - vl xs)).length ≤ xs.length + ys.length + 40000 ∧ lo (vl ys * 2 ^ k - vl xs) = lo (vl (lo (vl ys * 2 ^ k - vl xs)))) := by
 rw [vl_lo, vl_lo, vl_lo]
 obtain ⟨N, hN⟩ : ∃ N, N = xs.length + ys.length + 31250 := ⟨_, rfl⟩
 have hV : vl ys * 2 ^ k < 2 ^ (64 * N) := by
  calc vl ys * 2 ^ k < 2 ^ (64 * ys.length) * 2 ^ k := (Nat.mul_lt_mul_right (Nat.two_pow_pos k)).2 (vl_lt hM)
   _ = 2 ^ (64 * ys.length + k) := by rw [← Nat.pow_add]
   _ ≤ 2 ^ (64 * N) := Nat.pow_le_pow_right (by omega) (by omega)
 have hX : vl xs < 2 ^ (64 * N) := Nat.lt_of_lt_of_le (vl_lt hL) (Nat.pow_le_pow_right (by omega) (by omega))
 have hS : vl xs + vl ys * 2 ^ k < 2 ^ (64 * (N + 1)) := by rw [pow64_succ]; omega
 rw [lo_length, lo_length, lo_length, lo_length]
 have h1 := nl_le hV
 have h2 := nl_le hS
 have h3 := nl_le (show vl xs - vl ys * 2 ^ k < 2 ^ (64 * N) by omega)
 have h4 := nl_le (show vl ys * 2 ^ k - vl xs < 2 ^ (64 * N) by omega)
 exact ⟨by omega, ⟨by omega, rfl⟩, ⟨by omega, rfl⟩, ⟨by omega, rfl⟩⟩
set_option maxHeartbeats 2000000 in
theorem plus_zero (a b : Dy) (ao bo : Option Addr) (cap bcap : Nat) (w : World) (hr : NS w ao cap a.mag) (hs : NS w bo bcap b.mag) (hL : Lm a.mag) (hM : Lm b.mag) (hn : a.mag.length ≤ 1000000) (hm : b.mag.length ≤ 1000000) (hz : vl a.mag = 0 ∨ vl b.mag = 0) :
    Calls Tryz.prog 23 #[.agg #[.bool a.neg, .slice ao a.mag.length cap, .int .i64 a.exp], .agg #[.bool b.neg, .slice bo b.mag.length bcap, .int .i64 b.exp]] w (GaveS w ao bo a b) := by
  have hZ := fun w' (h : NS w' ao cap a.mag) => zero_any a ao cap w' h hL (by omega)
  have hY := fun w' (h : NS w' bo bcap b.mag) => zero_any b bo bcap w' h hM (by omega)
  by_cases h0 : vl a.mag = 0
  · have HV := plusV_left hM h0
    have e0 : (vl a.mag == 0) = true := by simpa using h0
    rw [e0] at hZ
    obtain ⟨n1, xs, ex⟩ := a
    obtain ⟨n2, ys, ey⟩ := b
    simp only at *
    clear hz h0 e0 hY
    go_enter Tryz.func23, Tryz.ntmps23
    go_wp2_with (go_at_call 40; refine (hZ _ (hr.below al3)).mono ?_; rintro e w1 ⟨rfl, b1⟩; obtain ⟨⟨c0, c1, c2⟩, ⟨d0, d1, d2⟩, ⟨e0, e1, e2⟩, ⟨k0, k1, k2⟩, hB⟩ := bx3 b1)
    refine bodyPost_ret (v := .agg #[.bool n2, .slice bo ys.length bcap, .int .i64 ey]) (by simp [results, Tryz.results23, go_sem, e0, e1, e2]) rfl ⟨⟨n2, ys, ey⟩, bo, bcap, rfl, HV, ⟨by simp only; omega, Or.inr (Or.inr ⟨rfl, rfl⟩)⟩, fun N h1 h2 p e hl => Or.inl (h2 p e hl), ?_, ((hB.setCell (by simp; omega) _).setCell (by simp; omega) _).setCell (by simp; omega) _⟩
    have h1 := hs.below hB
    have hne : ∀ x off, bo = some ⟨x, off, none⟩ → ys.length ≠ 0 → x ≠ w.heap.size + 1 + 1 := fun x off e h0 => by have := hs.1.blk3 e h0; omega
    exact ⟨((h1.1.setCell _ hne).setCell _ hne).setCell _ hne, h1.2⟩
  · have h2 : vl b.mag = 0 := by rcases hz with h | h; · exact absurd h h0
                                 · exact h
    have HV := plusV_right hL h2
    have e0 : (vl a.mag == 0) = false := by simpa using h0
    have e1 : (vl b.mag == 0) = true := by simpa using h2
    rw [e0] at hZ
    rw [e1] at hY
    obtain ⟨n1, xs, ex⟩ := a
    obtain ⟨n2, ys, ey⟩ := b
    simp only at *
    clear hz h0 e0 e1 h2
    go_enter Tryz.func23, Tryz.ntmps23
    go_wp2_with (first
      | (go_at_call_of 40 (Value.agg #[.bool n1, .slice ao xs.length cap, .int .i64 ex]); refine (hZ _ (hr.below al3)).mono ?_; rintro e w1 ⟨rfl, b1⟩; obtain ⟨⟨c0, c1, c2⟩, ⟨d0, d1, d2⟩, ⟨e0, e1, e2⟩, ⟨k0, k1, k2⟩, hB0⟩ := bx3 b1)
      | (go_at_call_of 40 (Value.agg #[.bool n2, .slice bo ys.length bcap, .int .i64 ey]); refine (hY _ (hs.below hB0)).mono ?_; rintro e w2 ⟨rfl, b2⟩; have B2 := b1.trans (b2.mono b1.size); clear c0 c1 c2 d0 d1 d2 e0 e1 e2 k0 k1 k2; obtain ⟨⟨c0, c1, c2⟩, ⟨d0, d1, d2⟩, ⟨e0, e1, e2⟩, ⟨k0, k1, k2⟩, hB⟩ := bx3 B2))
    refine bodyPost_ret (v := .agg #[.bool n1, .slice ao xs.length cap, .int .i64 ex]) (by simp [results, Tryz.results23, go_sem, e0, e1, e2]) rfl ⟨⟨n1, xs, ex⟩, ao, cap, rfl, HV, ⟨by simp only; omega, Or.inr (Or.inl ⟨rfl, rfl⟩)⟩, fun N h1 h2 p e hl => Or.inl (h1 p e hl), ?_, ((hB.setCell (by simp; omega) _).setCell (by simp; omega) _).setCell (by simp; omega) _⟩
    have h1 := hr.below hB
    have hne : ∀ x off, ao = some ⟨x, off, none⟩ → xs.length ≠ 0 → x ≠ w.heap.size + 1 + 1 := fun x off e h0 => by have := hr.1.blk3 e h0; omega
    exact ⟨((h1.1.setCell _ hne).setCell _ hne).setCell _ hne, h1.2⟩
end Go.Proofs.YtfipmopmpacdaaaGreatDoor
