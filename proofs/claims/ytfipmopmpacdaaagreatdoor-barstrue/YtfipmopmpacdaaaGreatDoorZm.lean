/- What round's Div answers of finite floats other than 0, by any way: the walk. -/
import Derived.Test.YtfipmopmpacdaaaGreatDoorU2
import Derived.Test.YtfipmopmpacdaaaGreatDoorZw
import Derived.Test.YtfipmopmpacdaaaGreatDoorV1
import Derived.Test.YtfipmopmpacdaaaGreatDoorSz
namespace Go.Proofs.YtfipmopmpacdaaaGreatDoor
open Go.RowKit
def twP : Nat := 1074
theorem fma_sum {x y z : Nat} (hx : x < 18446744073709551616) (hy : y < 18446744073709551616) (hz : z < 18446744073709551616) (fx : finB x = true) (fy : finB y = true) (fz : finB z = true) :
  ∃ (T : Int) (b : Int) (s : Bool), FloatKind.f64.format.fma x y z = some (Ieee.double.nearest s T.natAbs b) ∧ -2148 ≤ b ∧ T * 2 ^ (b + 2148).toNat = exX x y z ∧ (T ≠ 0 → s = decide (T < 0)) := by
 show ∃ (T : Int) (b : Int) (s : Bool), (((Ieee.double.read x).product (Ieee.double.read y)).bind (·.sum (Ieee.double.read z))).map Ieee.double.write = _ ∧ _
 rw [read_fin hx fx, read_fin hy fy, read_fin hz fz]
 simp only [Ieee.Datum.product, Option.bind_some, Ieee.Datum.sum, Option.map_some, Ieee.Format.write]
 refine ⟨_, _, _, rfl, ?_, ?_, fun h => by rw [if_neg h]⟩
 ·omega
 ·obtain ⟨ux, hux⟩ : ∃ u, up (rung x) = u := ⟨_, rfl⟩
  obtain ⟨uy, huy⟩ : ∃ u, up (rung y) = u := ⟨_, rfl⟩
  obtain ⟨uz, huz⟩ : ∃ u, up (rung z) = u := ⟨_, rfl⟩
  have vx : vI x = (if sgn x then -((mg (rung x) * 2 ^ ux : Nat) : Int) else ((mg (rung x) * 2 ^ ux : Nat) : Int)) := by unfold vI; rw [← hux, mg_up]
  have vy : vI y = (if sgn y then -((mg (rung y) * 2 ^ uy : Nat) : Int) else ((mg (rung y) * 2 ^ uy : Nat) : Int)) := by unfold vI; rw [← huy, mg_up]
  have vz : vI z = (if sgn z then -((mg (rung z) * 2 ^ uz : Nat) : Int) else ((mg (rung z) * 2 ^ uz : Nat) : Int)) := by unfold vI; rw [← huz, mg_up]
  rw [exX_un (L := twP) rfl, vx, vy, vz, hux, huy, huz]
  generalize mg (rung x) = p
  generalize mg (rung y) = q
  generalize mg (rung z) = r
  have hb : ∃ β : Nat, min (-1074 + (ux : Int) + (-1074 + (uy : Int))) (-1074 + (uz : Int)) + 2148 = β ∧ β ≤ ux + uy ∧ β ≤ uz + twP := ⟨(min (-1074 + (ux : Int) + (-1074 + (uy : Int))) (-1074 + (uz : Int)) + 2148).toNat, by omega, by omega, by unfold twP; omega⟩
  obtain ⟨β, h1, h2, h3⟩ := hb
  have t1 : (-1074 + (ux : Int) + (-1074 + (uy : Int)) - min (-1074 + (ux : Int) + (-1074 + (uy : Int))) (-1074 + (uz : Int))).toNat = ux + uy - β := by omega
  have t2 : (-1074 + (uz : Int) - min (-1074 + (ux : Int) + (-1074 + (uy : Int))) (-1074 + (uz : Int))).toNat = uz + twP - β := by unfold twP; omega
  rw [t1, t2, h1, Int.toNat_natCast]
  have e : ((2 : Int) ^ β) = ((2 ^ β : Nat) : Int) := by push_cast; rfl
  rw [e, Int.add_mul, signed_mul, signed_mul, Nat.sub_add_cancel h2, Nat.sub_add_cancel h3]
  have k1 : p * q * 2 ^ (ux + uy) = (p * 2 ^ ux) * (q * 2 ^ uy) := by rw [Nat.pow_add, Nat.mul_mul_mul_comm]
  have k2 : r * 2 ^ (uz + twP) = r * 2 ^ uz * 2 ^ twP := by rw [Nat.pow_add, Nat.mul_assoc]
  have e2 : ((2 : Int) ^ twP) = ((2 ^ twP : Nat) : Int) := by push_cast; rfl
  rw [k1, k2, e2]
  generalize p * 2 ^ ux = P
  generalize q * 2 ^ uy = Q
  generalize r * 2 ^ uz = R
  generalize (2 : Nat) ^ twP = W
  cases sgn x <;> cases sgn y <;> cases sgn z <;> simp [Int.neg_mul, Int.mul_neg]
theorem fma_sign {x y z f : Nat} (hx : x < 18446744073709551616) (hy : y < 18446744073709551616) (hz : z < 18446744073709551616) (fx : finB x = true) (fy : finB y = true) (fz : finB z = true) (hf : FloatKind.f64.format.fma x y z = some f)
  (hl : exX x y z = 0 ∨ 2 ^ twP ≤ (exX x y z).natAbs) : signF f = sgI (exX x y z) := by
 obtain ⟨T, b, s, h1, h2, h3, h4⟩ := fma_sum hx hy hz fx fy fz
 rw [hf] at h1
 have hpow : (0 : Int) < 2 ^ (b + 2148).toNat := Int.pow_pos (by decide)
 by_cases t0 : T = 0
 ·have e0 : exX x y z = 0 := by rw [← h3, t0, Int.zero_mul]
  have ef : f = Ieee.double.word s 0 := by
   have := Option.some.inj h1
   rw [this, t0]; rfl
  rw [e0, ef]
  have hr := word_rung s (show 0 < 9223372036854775808 by omega)
  unfold signF place nanB
  rw [hr.1]
  cases sgn (Ieee.double.word s 0) <;> rfl
 ·have es := h4 t0
  have hA : T.natAbs * 2 ^ (b + 1074 + ((twP : Nat) : Int)).toNat = (exX x y z).natAbs := by
   rw [← h3, Int.natAbs_mul]
   congr 1
   rw [show (b + 1074 + ((twP : Nat) : Int)).toNat = (b + 2148).toNat by unfold twP; omega, Int.natAbs_pow]
   rfl
  obtain ⟨k, e, hk, c⟩ := near_anyD s b twP (m := T.natAbs) (by omega) (by unfold twP; omega)
  have ne : exX x y z ≠ 0 := by
   intro e0
   rw [← h3] at e0
   rcases Int.mul_eq_zero.1 e0 with h | h
   ·exact t0 h
   ·omega
  have hl2 : 2 ^ twP ≤ (exX x y z).natAbs := hl.resolve_left ne
  have kp : 0 < k := (c 0 (by omega)).2 (by
   left
   rw [hA, show val 0 + val (0 + 1) = 1 by decide, Nat.one_mul]
   have : 0 < (2 : Nat) ^ twP := Nat.two_pow_pos _
   omega)
  have ef : f = Ieee.double.word s k := by rw [Option.some.inj h1, e]
  have hr := word_rung s (show k < 9223372036854775808 by omega)
  have hg : (T < 0 ↔ exX x y z < 0) := by
   rw [← h3]
   constructor
   ·intro h; exact Int.mul_neg_of_neg_of_pos h hpow
   ·intro h
    rcases Int.lt_or_le T 0 with g | g
    ·exact g
    ·exfalso
     have := Int.mul_nonneg g (Int.le_of_lt hpow)
     omega
  rw [ef]
  unfold signF place nanB
  rw [hr.1, hr.2, es]
  have nn : decide (9218868437227405312 < k) = false := decide_eq_false (by omega)
  rw [nn]
  unfold sgI
  by_cases g : T < 0
  ·have g' := hg.1 g
   simp [g]
   omega
  ·have g' : ¬ exX x y z < 0 := fun h => g (hg.2 h)
   simp [g]
   omega
theorem big_of_dvd {X : Int} {j : Nat} (h : (2 : Int) ^ j ∣ X) (hj : twP ≤ j) : X = 0 ∨ 2 ^ twP ≤ X.natAbs := by
 by_cases h0 : X = 0
 ·exact Or.inl h0
 ·right
  obtain ⟨c, rfl⟩ := h
  rw [Int.natAbs_mul, Int.natAbs_pow]
  have hc : c ≠ 0 := fun e => h0 (by rw [e, Int.mul_zero])
  have h1 : 1 ≤ c.natAbs := by omega
  have h2 : (2 : Nat) ^ twP ≤ 2 ^ j := Nat.pow_le_pow_right (by omega) hj
  calc 2 ^ twP ≤ 2 ^ j * 1 := by rw [Nat.mul_one]; exact h2
   _ ≤ 2 ^ j * c.natAbs := Nat.mul_le_mul_left _ h1
theorem vI_dvd (a : Nat) : (2 : Int) ^ up (rung a) ∣ vI a := by
 unfold vI
 rw [← mg_up]
 have e : ((mg (rung a) * 2 ^ up (rung a) : Nat) : Int) = 2 ^ up (rung a) * (mg (rung a) : Int) := by push_cast; rw [Int.mul_comm]
 rw [e]
 split
 ·exact ⟨-(mg (rung a) : Int), by rw [Int.mul_neg]⟩
 ·exact ⟨_, rfl⟩
theorem exX_big {x y z : Nat} (h : twP ≤ up (rung x) + up (rung y)) : exX x y z = 0 ∨ 2 ^ twP ≤ (exX x y z).natAbs := by
 refine big_of_dvd (j := twP) ?_ (Nat.le_refl _)
 rw [exX_un (L := twP) rfl]
 refine Int.dvd_add ?_ (Int.dvd_mul_left _ _)
 obtain ⟨p, hp⟩ := vI_dvd x
 obtain ⟨q, hq⟩ := vI_dvd y
 rw [hp, hq]
 obtain ⟨j, hj⟩ : ∃ j, up (rung x) + up (rung y) = twP + j := ⟨up (rung x) + up (rung y) - twP, by omega⟩
 have e : (2 : Int) ^ up (rung x) * p * (2 ^ up (rung y) * q) = 2 ^ twP * (2 ^ j * (p * q)) := by
  rw [← Int.mul_assoc (2 ^ twP), ← Int.pow_add, ← hj, Int.pow_add]
  ac_rfl
 rw [e]
 exact ⟨_, rfl⟩
theorem calm_val : val 553942754166571007 + val (553942754166571007 + 1) = 2 ^ 174 + val 553942754166571007 := by
 rw [show val (553942754166571007 + 1) = 2 ^ 174 by decide, Nat.add_comm]
theorem mul_places {a b q : Nat} (ha : a < 18446744073709551616) (hb : b < 18446744073709551616) (sa : someB a = true) (sb : someB b = true) (hq : floatBits .mul .f64 a b = some q) (h : 553942754166571008 ≤ rung q) : twP ≤ up (rung a) + up (rung b) := by
 rcases Nat.lt_or_ge (up (rung a) + up (rung b)) twP with hl | hl
 ·exfalso
  obtain ⟨fa, a0⟩ := some_rung sa
  obtain ⟨fb, b0⟩ := some_rung sb
  have a0' : rung a ≠ 0 := by simpa using a0
  have b0' : rung b ≠ 0 := by simpa using b0
  rw [(fbits_map a b).2.2.1, read_fin ha fa, read_fin hb fb] at hq
  simp only [Ieee.Datum.product, Option.map_some, Ieee.Format.write, Option.some.injEq] at hq
  have m1 : mg (rung a) ≠ 0 := by unfold mg; split <;> omega
  have m2 : mg (rung b) ≠ 0 := by unfold mg; split <;> omega
  obtain ⟨k, e, hk, c⟩ := near_anyD (sgn a ^^ sgn b) (-1074 + ((up (rung a) : Nat) : Int) + (-1074 + ((up (rung b) : Nat) : Int))) twP (m := mg (rung a) * mg (rung b)) (Nat.mul_ne_zero m1 m2) (by unfold twP; omega)
  rw [← hq, e, (word_rung _ (show k < 9223372036854775808 by omega)).1] at h
  have hc := (c 553942754166571007 (by omega)).1 (by omega)
  have hexp : (-1074 + ((up (rung a) : Nat) : Int) + (-1074 + ((up (rung b) : Nat) : Int)) + 1074 + ((twP : Nat) : Int)).toNat = up (rung a) + up (rung b) := by unfold twP; omega
  rw [hexp] at hc
  have b1 : mg (rung a) < 2 ^ 53 := by unfold mg; split <;> omega
  have b2 : mg (rung b) < 2 ^ 53 := by unfold mg; split <;> omega
  have hprod : mg (rung a) * mg (rung b) ≤ 2 ^ 106 := by
   have := Nat.mul_le_mul (Nat.le_of_lt b1) (Nat.le_of_lt b2)
   rw [← Nat.pow_add] at this
   exact this
  have hA : mg (rung a) * mg (rung b) * 2 ^ (up (rung a) + up (rung b)) ≤ 2 ^ 106 * 2 ^ twP := Nat.mul_le_mul hprod (Nat.pow_le_pow_right (by omega) (by omega))
  unfold aboveD at hc
  rw [calm_val] at hc
  generalize mg (rung a) * mg (rung b) * 2 ^ (up (rung a) + up (rung b)) = A at hc hA
  have hw : 0 < (2 : Nat) ^ twP := Nat.two_pow_pos _
  generalize (2 : Nat) ^ twP = W at hc hA hw
  have hv : (2 ^ 174 + val 553942754166571007) * W ≥ 2 ^ 174 * W := Nat.mul_le_mul_right _ (by omega)
  generalize (2 ^ 174 + val 553942754166571007) * W = Z at hc hv
  rcases hc with g | ⟨g, _⟩ <;> omega
 ·exact hl
theorem ebox {w w1 : World} {x0 x1 x2 : Value} {s : TypeId} (hb : Below (w.alloc (.cells #[x0, x1, x2] s)).heap.size (w.alloc (.cells #[x0, x1, x2] s)) w1) :
  (w1.cell? ⟨w.heap.size, 0, none⟩ = some x0 ∧ w1.cell? ⟨w.heap.size, 1, none⟩ = some x1 ∧ w1.cell? ⟨w.heap.size, 2, none⟩ = some x2) ∧
  (w1.frozen? ⟨w.heap.size, 0, none⟩ = false ∧ w1.frozen? ⟨w.heap.size, 1, none⟩ = false ∧ w1.frozen? ⟨w.heap.size, 2, none⟩ = false) ∧ Below w.heap.size w w1 := by
 have h := fun (o : Nat) => hb.cell (p := ⟨w.heap.size, o, none⟩) (by simp)
 have g := fun (o : Nat) => hb.frozen (p := ⟨w.heap.size, o, none⟩) (by simp)
 refine ⟨⟨?_, ?_, ?_⟩, ⟨?_, ?_, ?_⟩, ((Below.refl _ _).alloc (Nat.le_refl _) _).trans (hb.mono (by go_simp))⟩
 ·rw [h]; simp [go_sem]
 ·rw [h]; simp [go_sem]
 ·rw [h]; simp [go_sem]
 ·rw [g]; simp [go_sem]
 ·rw [g]; simp [go_sem]
 ·rw [g]; simp [go_sem]
theorem estep {w a b : World} {o : Obj} (h : Below w.heap.size w a) (hb : Below (a.alloc o).heap.size (a.alloc o) b) : Below w.heap.size w b :=
 h.trans ((((Below.refl _ _).alloc (Nat.le_refl _) o).trans (hb.mono (by go_simp))).mono h.size)
set_option maxRecDepth 100000 in
set_option maxHeartbeats 2000000 in
theorem exactly_walk (x y z : Nat) (X Y Z P E : Dy) (hx : x < 18446744073709551616) (hy : y < 18446744073709551616) (hz : z < 18446744073709551616) (eX : ofD x = (X, 0)) (eY : ofD y = (Y, 0)) (eZ : ofD z = (Z, 0)) (eP : mulD X Y = (P, 0)) (eE : addD P Z = (E, 0))
  (lX : Lm X.mag) (lY : Lm Y.mag) (lZ : Lm Z.mag) (lP : Lm P.mag) (w : World) (hT : TabW w) :
  Calls Tryz.prog 91 #[.float .f64 x, .float .f64 y, .float .f64 z] w fun e w' => ∃ ao cap, e = .returned (.agg #[.bool E.neg, .slice ao E.mag.length cap, .int .i64 E.exp]) ∧ LRow w' ao E.mag ∧ Below w.heap.size w w' := by
 have ox := fun w h => Of_any x hx w h
 have oy := fun w h => Of_any y hy w h
 have oz := fun w h => Of_any z hz w h
 rw [eX] at ox
 rw [eY] at oy
 rw [eZ] at oz
 have om := fun ao bo cap bcap w h1 h2 h3 => mul_any X Y ao bo cap bcap w h1 h2 lX lY h3
 have oa := fun ao bo cap bcap w h1 h2 h3 => Add_any P Z ao bo cap bcap w h1 h2 lP lZ h3
 rw [eP] at om
 rw [eE] at oa
 clear eX eY eZ eP eE lX lY lZ lP
 go_enter Tryz.func91, Tryz.ntmps91
 go_upto_region 2 with (go_at_call_of 107 (Value.float FloatKind.f64 x); refine (ox _ (tabW_alloc hT _)).mono ?_; rintro e w1 ⟨ax, cx, rfl, r1, _, b1⟩)
 have T1 := tabW_below (tabW_alloc hT _) b1
 have H1 := Hd.new (cap := cx) r1
 go_upto_region 3 with (go_at_call_of 107 (Value.float FloatKind.f64 y); refine (oy _ (tabW_alloc T1 _)).mono ?_; rintro e w2 ⟨ay, cy, rfl, r2, _, b2⟩)
 have T2 := tabW_below (tabW_alloc T1 _) b2
 have X2 := H1.below b2
 have H2 := Hd.new (cap := cy) r2
 go_upto_region 4 with (go_at_call_of 107 (Value.float FloatKind.f64 z); refine (oz _ (tabW_alloc T2 _)).mono ?_; rintro e w3 ⟨az, cz, rfl, r3, _, b3⟩)
 have T3 := tabW_below (tabW_alloc T2 _) b3
 have X3 := (X2.below ((Below.refl _ _).alloc (Nat.le_refl _) _)).below b3
 have Y3 := H2.below b3
 have Z3 := Hd.new (cap := cz) r3
 have X4 := X3.below ((Below.refl _ _).alloc (Nat.le_refl _) (.cells #[.bool Z.neg, .slice az Z.mag.length cz, .int .i64 Z.exp] 145))
 have Y4 := Y3.below ((Below.refl _ _).alloc (Nat.le_refl _) (.cells #[.bool Z.neg, .slice az Z.mag.length cz, .int .i64 Z.exp] 145))
 have x0 := X4.c0
 have x1 := X4.c1
 have x2 := X4.c2
 have y0 := Y4.c0
 have y1 := Y4.c1
 have y2 := Y4.c2
 go_upto_region 5 with (go_at_call 108; refine (om _ _ _ _ _ X4.row Y4.row (tabW_alloc T3 _)).mono ?_; rintro e w4 ⟨ap, cp, rfl, r4, _, b4⟩)
 clear x0 x1 x2 y0 y1 y2
 have T4 := tabW_below (tabW_alloc T3 _) b4
 have Z4 := Z3.below b4
 have P4 := Hd.new (cap := cp) r4
 have Z5 := Z4.below ((Below.refl _ _).alloc (Nat.le_refl _) (.cells #[.bool P.neg, .slice ap P.mag.length cp, .int .i64 P.exp] 145))
 have z0 := Z5.c0
 have z1 := Z5.c1
 have z2 := Z5.c2
 go_upto_region 6 with (go_at_call 109; refine (oa _ _ _ _ _ P4.row Z5.row (tabW_alloc T4 _)).mono ?_; rintro e w5 ⟨ae, ce, rfl, r5, fr5, b5⟩)
 clear z0 z1 z2
 have BB := estep (estep (estep (estep b1 b2) b3) b4) b5
 have B6 := BB.alloc BB.size (.cells #[.bool E.neg, .slice ae E.mag.length ce, .int .i64 E.exp] 145)
 obtain ⟨⟨c0, c1, c2⟩, ⟨f0, f1, f2⟩, B7⟩ := ebox B6
 have E6 := Hd.new (cap := ce) r5
 have e0 := E6.c0
 have e1 := E6.c1
 have e2 := E6.c2
 go_wp2
 refine bodyPost_ret (v := .agg #[.bool E.neg, .slice ae E.mag.length ce, .int .i64 E.exp]) (by simp [results, Tryz.results91, go_sem, c0, c1, c2]) rfl ⟨ae, ce, rfl, ?_, ((B7.setCell (Nat.le_refl _) _).setCell (Nat.le_refl _) _).setCell (Nat.le_refl _) _⟩
 have hf : Frs (w.heap.size + 1) ae := fr5.mono (by have := (estep (estep (estep b1 b2) b3) b4).size; simp at this; simp; omega)
 exact (((E6.row).box hf (by omega) _ _).box hf (by omega) _ _).box hf (by omega) _ _
theorem exactly_any (x y z : Nat) (hx : x < 18446744073709551616) (hy : y < 18446744073709551616) (hz : z < 18446744073709551616) (fx : finB x = true) (fy : finB y = true) (fz : finB z = true) (w : World) (hT : TabW w) :
  Calls Tryz.prog 91 #[.float .f64 x, .float .f64 y, .float .f64 z] w fun e w' => ∃ ao cap, e = .returned (.agg #[.bool (dz (exX x y z)).neg, .slice ao (dz (exX x y z)).mag.length cap, .int .i64 (dz (exX x y z)).exp]) ∧ LRow w' ao (dz (exX x y z)).mag ∧ Below w.heap.size w w' := by
 obtain ⟨x1, _, x3, _⟩ := fq_qd fx rfl
 obtain ⟨y1, _, y3, _⟩ := fq_qd fy rfl
 obtain ⟨z1, _, z3, _⟩ := fq_qd fz rfl
 obtain ⟨l1, _⟩ := exX_lt fx fy fz
 obtain ⟨_, p2, _⟩ := dz_qd l1 rfl
 exact exactly_walk x y z (ofD x).1 (ofD y).1 (ofD z).1 (dz (vI x * vI y)) (dz (exX x y z)) hx hy hz (by rw [← x1]) (by rw [← y1]) (by rw [← z1]) (mul_fq fx fy) (add_fq fx fy fz) x3 y3 z3 p2 w hT
set_option maxHeartbeats 800000 in
theorem signOf_small (x y z : Nat) (hx : x < 18446744073709551616) (hy : y < 18446744073709551616) (hz : z < 18446744073709551616) (fx : finB x = true) (fy : finB y = true) (fz : finB z = true) (hc : (FloatKind.f64.format.order (rung z) 553942754166571008 == some .lt) = true) (w : World) (hT : TabW w) :
  Calls Tryz.prog 75 #[.float .f64 x, .float .f64 y, .float .f64 z] w fun e w' => e = .returned (.int .i64 (sgI (exX x y z))) ∧ Below w.heap.size w w' := by
 have ce := exactly_any x y z hx hy hz fx fy fz
 obtain ⟨_, l2⟩ := exX_lt fx fy fz
 obtain ⟨d1, d2, _⟩ := dz_qd l2 rfl
 have hs := dz_sign l2
 generalize dz (exX x y z) = d at *
 obtain ⟨n, m, e⟩ := d
 go_enter Tryz.func75, Tryz.ntmps75
 go_wp2_with (first
  | (go_at_call 83; refine (abs_any _ hz _).mono ?_; rintro e w' ⟨rfl, rfl⟩)
  | (go_at_call 91; refine (ce _ hT).mono ?_; rintro e w1 ⟨ao, cap, rfl, r1, b1⟩)
  | (go_at_call 90; refine (Sign_ok n m e ao cap _ r1 d2 d1).mono ?_; rw [hs]; rintro e w2 ⟨rfl, b2⟩))
 go_ret
 exact ⟨rfl, b1.trans (b2.mono b1.size)⟩
def pQ (a b : Nat) : Nat := (floatBits .mul .f64 a b).getD 0
def pS (a b : Nat) : Int := if finB (pQ a b) then sgI (exX a b (negW (pQ a b))) else if sgn (pQ a b) then 1 else -1
theorem signF_inf {f : Nat} (h : rung f = 9218868437227405312) : signF f = if sgn f then -1 else 1 := by
 unfold signF place nanB
 rw [h]
 cases sgn f <;> simp
theorem fma_inf {a b z : Nat} (ha : a < 18446744073709551616) (hb : b < 18446744073709551616) (hz : z < 18446744073709551616) (fa : finB a = true) (fb : finB b = true) (iz : rung z = 9218868437227405312) : FloatKind.f64.format.fma a b z = some z := by
 show (((Ieee.double.read a).product (Ieee.double.read b)).bind (·.sum (Ieee.double.read z))).map Ieee.double.write = some z
 rw [read_fin ha fa, read_fin hb fb, read_eq z hz, if_neg (by omega), if_pos iz]
 simp only [Ieee.Datum.product, Option.bind_some, Ieee.Datum.sum, Option.map_some]
 have h := rung_of z hz
 rw [iz] at h
 cases hs : sgn z <;> rw [hs] at h
 ·have e : z = 9218868437227405312 := by simpa using h
  rw [e]; rfl
 ·have e : z = 18442240474082181120 := by simpa using h
  rw [e]; rfl
set_option maxHeartbeats 1000000 in
theorem rmul_any (a b : Nat) (m : Int) (ha : a < 18446744073709551616) (hb : b < 18446744073709551616) (sa : someB a = true) (sb : someB b = true) (w : World) (hT : TabW w) :
  floatBits .mul .f64 a b = some (pQ a b) ∧ Calls Tryz.prog 56 #[.float .f64 a, .float .f64 b, .int .i8 m] w fun e w' => e = .returned (.float .f64 (stepF (pQ a b) (pS a b) m)) ∧ Below w.heap.size w w' := by
 have fa := (some_rung sa).1
 have fb := (some_rung sb).1
 obtain ⟨q, hq⟩ : ∃ q, floatBits .mul .f64 a b = some q := by
  rw [(fbits_map a b).2.2.1, read_fin ha fa, read_fin hb fb]
  exact ⟨_, rfl⟩
 have eq : pQ a b = q := by unfold pQ; rw [hq]; rfl
 have eS : pS a b = if finB q then sgI (exX a b (negW q)) else if sgn q then 1 else -1 := by unfold pS; rw [eq]
 rw [eS, eq]
 refine ⟨hq, ?_⟩
 obtain ⟨q1, q2⟩ := op_word (op := .mul) (Or.inr (Or.inr (Or.inl rfl))) hq
 obtain ⟨r1, r2⟩ := neg_rung q1
 have hN := negW_lt q1
 by_cases hc : 553942754166571008 ≤ rung q
 ·obtain ⟨f, hf⟩ := fma_told2 ha hb hN fa fb (by rw [r1]; exact q2)
  have ht : (FloatKind.f64.format.order (rung (negW q)) 553942754166571008 == some .lt) = false := calm_test (by rw [r1]; exact hc) (by rw [r1]; exact q2)
  have hs : signF f = if finB q then sgI (exX a b (negW q)) else if sgn q then 1 else -1 := by
   cases fq : finB q
   ·have iq : rung (negW q) = 9218868437227405312 := by rw [r1]; unfold finB at fq; simp at fq; omega
    rw [fma_inf ha hb hN fa fb iq] at hf
    rw [← Option.some.inj hf, signF_inf iq, r2]
    cases sgn q <;> rfl
   ·exact fma_sign ha hb hN fa fb ((neg_fin q1).trans fq) hf (exX_big (mul_places ha hb sa sb hq hc))
  refine (rmul_great a b q f m ha hb sa sb hq q1 ht hf (fma_word hf).1 w).mono ?_
  rw [hs]
  rintro e w' ⟨rfl, rfl⟩
  exact ⟨rfl, Below.refl _ _⟩
 ·have fq : finB q = true := by unfold finB; simp; omega
  rw [fq]
  have ht : (FloatKind.f64.format.order (rung (negW q)) 553942754166571008 == some .lt) = true := by
   rw [r1, lt_num (by omega) (by omega) (nan_small (by omega)) (by decide), place_small (by omega), place_small (by omega)]
   exact decide_eq_true (by omega)
  have cs := fun w h => signOf_small a b (negW q) ha hb hN fa fb ((neg_fin q1).trans fq) ht w h
  have h1 := fun w => run_float_arith (P := Tryz.prog) w .mul 36 .f64 _ _ _ hq
  have hu := run_negf
  have ca := some_any a ha
  have cb := some_any b hb
  have hcv := conv64 q
  rw [sa] at ca
  rw [sb] at cb
  simp only [if_true]
  clear hq ht hc eq eS r1 r2 q2 fq
  go_enter Tryz.func56, Tryz.ntmps56
  go_wp2_with (first
   | (go_at_call_of 73 (Value.float FloatKind.f64 a); refine (ca _).mono ?_; rintro e w' ⟨rfl, rfl⟩)
   | (go_at_call_of 73 (Value.float FloatKind.f64 b); refine (cb _).mono ?_; rintro e w' ⟨rfl, rfl⟩)
   | (go_at_call 75; refine (cs _ hT).mono ?_; rintro e w1 ⟨rfl, b1⟩)
   | (go_at_call 74; refine (step_any _ _ _ q1 _).mono ?_; rintro e w' ⟨rfl, rfl⟩))
  go_ret
  exact ⟨rfl, b1⟩
theorem val_two (k : Nat) (h : k ≠ 0) : val (k + 1) ≤ 2 * val k := by
 unfold val
 by_cases h1 : k + 1 < 4503599627370496
 ·rw [if_pos h1, if_pos (by omega)]; omega
 ·rw [if_neg h1]
  by_cases h2 : k < 4503599627370496
  ·have e : k + 1 = 4503599627370496 := by omega
   rw [if_pos h2, e]; omega
  ·rw [if_neg h2]
   by_cases h3 : (k + 1) % 4503599627370496 = 0
   ·have e1 : (k + 1) / 4503599627370496 - 1 = (k / 4503599627370496 - 1) + 1 := by omega
    have e2 : k % 4503599627370496 = 4503599627370495 := by omega
    rw [h3, e1, e2, Nat.pow_succ]
    generalize 2 ^ (k / 4503599627370496 - 1) = t
    omega
   ·have e1 : (k + 1) / 4503599627370496 = k / 4503599627370496 := by omega
    have e2 : (k + 1) % 4503599627370496 = k % 4503599627370496 + 1 := by omega
    rw [e1, e2]
    generalize 2 ^ (k / 4503599627370496 - 1) = t
    have h4 : (4503599627370496 + (k % 4503599627370496 + 1)) * t ≤ 2 * (4503599627370496 + k % 4503599627370496) * t := Nat.mul_le_mul_right _ (by omega)
    rw [Nat.mul_assoc 2] at h4
    exact h4
theorem quo_floor {M n more : Nat} (hn : n ≠ 0) (h : n ≤ M <<< more) : M <<< more ≤ 2 * ((M <<< more) / n * n) := by
 have h1 := Nat.div_add_mod (M <<< more) n
 have h2 := Nat.mod_lt (M <<< more) (Nat.pos_of_ne_zero hn)
 have h3 : 1 ≤ (M <<< more) / n := (Nat.le_div_iff_mul_le (Nat.pos_of_ne_zero hn)).2 (by omega)
 have h4 : n * 1 ≤ n * ((M <<< more) / n) := Nat.mul_le_mul_left _ h3
 rw [Nat.mul_comm ((M <<< more) / n) n]
 omega
theorem quo_more {M n : Nat} (hM : M ≠ 0) : n ≤ M <<< (54 + n.log2 - M.log2) := by
 have h1 := Nat.lt_log2_self (n := n)
 have h2 := Nat.log2_self_le hM
 rw [Nat.shiftLeft_eq]
 have h3 : 2 ^ (n.log2 + 1) ≤ 2 ^ M.log2 * 2 ^ (54 + n.log2 - M.log2) := by
  rw [← Nat.pow_add]
  exact Nat.pow_le_pow_right (by omega) (by omega)
 exact Nat.le_of_lt (Nat.lt_of_lt_of_le h1 (Nat.le_trans h3 (Nat.mul_le_mul_right _ h2)))
theorem div_places {a b q : Nat} (ha : a < 18446744073709551616) (hb : b < 18446744073709551616) (sa : someB a = true) (sb : someB b = true) (hq : floatBits .quo .f64 a b = some q) (hc : 553942754166571008 ≤ rung a) (q0 : rung q ≠ 0) (fq : finB q = true) : twP ≤ up (rung q) + up (rung b) := by
 obtain ⟨fa, a0⟩ := some_rung sa
 obtain ⟨fb, b0⟩ := some_rung sb
 have a0' : rung a ≠ 0 := by simpa using a0
 have b0' : rung b ≠ 0 := by simpa using b0
 have m1 : mg (rung a) ≠ 0 := by unfold mg; split <;> omega
 have m2 : mg (rung b) ≠ 0 := by unfold mg; split <;> omega
 rw [(fbits_map a b).2.2.2, read_fin ha fa, read_fin hb fb] at hq
 simp only [Ieee.Datum.quotient] at hq
 rw [if_neg m2] at hq
 simp only [Option.map_some, Ieee.Format.write, Option.some.injEq] at hq
 obtain ⟨more, hmore⟩ : ∃ d, 54 + (mg (rung b)).log2 - (mg (rung a)).log2 = d := ⟨_, rfl⟩
 have g1 := quo_more (n := mg (rung b)) m1
 rw [hmore] at hq g1
 have g2 := quo_floor m2 g1
 have g3 : 1 ≤ mg (rung a) <<< more / mg (rung b) := (Nat.le_div_iff_mul_le (Nat.pos_of_ne_zero m2)).2 (by omega)
 obtain ⟨k, e, hk, c⟩ := near_anyD (sgn a ^^ sgn b) (-1074 + ((up (rung a) : Nat) : Int) - (-1074 + ((up (rung b) : Nat) : Int)) - (more : Int) - 1) (up (rung b) + more + 1) (m := 2 * (mg (rung a) <<< more / mg (rung b)) + (mg (rung a) <<< more % mg (rung b) != 0).toNat) (by omega) (by omega)
 rw [e] at hq
 have hrk : rung q = k := by rw [← hq]; exact (word_rung _ (show k < 9223372036854775808 by omega)).1
 have hkf := fin_rung fq
 rw [hrk] at hkf q0
 have hno : ¬ aboveD (up (rung b) + more + 1) ((2 * (mg (rung a) <<< more / mg (rung b)) + (mg (rung a) <<< more % mg (rung b) != 0).toNat) * 2 ^ (-1074 + ((up (rung a) : Nat) : Int) - (-1074 + ((up (rung b) : Nat) : Int)) - (more : Int) - 1 + 1074 + ((up (rung b) + more + 1 : Nat) : Int)).toNat) k := fun h => Nat.lt_irrefl k ((c k hkf).2 h)
 have hexp : (-1074 + ((up (rung a) : Nat) : Int) - (-1074 + ((up (rung b) : Nat) : Int)) - (more : Int) - 1 + 1074 + ((up (rung b) + more + 1 : Nat) : Int)).toNat = up (rung a) + twP := by unfold twP; omega
 rw [hexp] at hno
 rw [hrk]
 rcases Nat.lt_or_ge (up k + up (rung b)) twP with hl | hl
 ·exfalso
  have v2 := val_two k q0
  have hva : 2 ^ 174 ≤ val (rung a) := by
   rw [← show val 553942754166571008 = 2 ^ 174 by decide]
   rcases Nat.lt_or_ge 553942754166571008 (rung a) with h | h
   ·exact Nat.le_of_lt (val_lt h)
   ·rw [show rung a = 553942754166571008 by omega]; exact Nat.le_refl _
  have b1 : mg k < 2 ^ 53 := by unfold mg; split <;> omega
  have b2 : mg (rung b) < 2 ^ 53 := by unfold mg; split <;> omega
  have hvk : val k * val (rung b) ≤ 2 ^ 106 * 2 ^ twP := by
   rw [← mg_up k, ← mg_up (rung b), Nat.mul_mul_mul_comm, ← Nat.pow_add]
   refine Nat.mul_le_mul ?_ (Nat.pow_le_pow_right (by omega) (by omega))
   have := Nat.mul_le_mul (Nat.le_of_lt b1) (Nat.le_of_lt b2)
   rw [← Nat.pow_add] at this
   exact this
  have hmain : (val k + val (k + 1)) * 2 ^ (up (rung b) + more + 1) ≥ 2 * (2 * (mg (rung a) <<< more / mg (rung b)) * 2 ^ (up (rung a) + twP)) := by
   unfold aboveD at hno
   have h5 : ¬ (val k + val (k + 1)) * 2 ^ (up (rung b) + more + 1) < 2 * ((2 * (mg (rung a) <<< more / mg (rung b)) + (mg (rung a) <<< more % mg (rung b) != 0).toNat) * 2 ^ (up (rung a) + twP)) := fun h => hno (Or.inl h)
   have h6 : 2 * (mg (rung a) <<< more / mg (rung b)) * 2 ^ (up (rung a) + twP) ≤ (2 * (mg (rung a) <<< more / mg (rung b)) + (mg (rung a) <<< more % mg (rung b) != 0).toNat) * 2 ^ (up (rung a) + twP) := Nat.mul_le_mul_right _ (by omega)
   omega
  -- times the divisor's digits
  have h7 : 3 * val k * 2 ^ (up (rung b) + more + 1) * mg (rung b) ≥ 4 * (mg (rung a) <<< more / mg (rung b) * mg (rung b)) * 2 ^ (up (rung a) + twP) := by
   have h8 : (val k + val (k + 1)) * 2 ^ (up (rung b) + more + 1) ≤ 3 * val k * 2 ^ (up (rung b) + more + 1) := Nat.mul_le_mul_right _ (by omega)
   have h9 := Nat.mul_le_mul_right (mg (rung b)) (Nat.le_trans hmain h8)
   have e9 : 2 * (2 * (mg (rung a) <<< more / mg (rung b)) * 2 ^ (up (rung a) + twP)) * mg (rung b) = 4 * (mg (rung a) <<< more / mg (rung b) * mg (rung b)) * 2 ^ (up (rung a) + twP) := by
    generalize mg (rung a) <<< more / mg (rung b) = F
    generalize 2 ^ (up (rung a) + twP) = W
    generalize mg (rung b) = B
    rw [← Nat.mul_assoc 2, ← Nat.mul_assoc 2, show 2 * 2 = 4 from rfl, Nat.mul_assoc (4 * F), Nat.mul_comm W B, ← Nat.mul_assoc, Nat.mul_assoc 4]
   rw [e9] at h9
   exact h9
  have h10 : 4 * (mg (rung a) <<< more / mg (rung b) * mg (rung b)) * 2 ^ (up (rung a) + twP) ≥ 2 * (mg (rung a) <<< more) * 2 ^ (up (rung a) + twP) := Nat.mul_le_mul_right _ (by omega)
  have h11 : 3 * val k * 2 ^ (up (rung b) + more + 1) * mg (rung b) = 3 * (val k * val (rung b)) * 2 ^ (more + 1) := by
   rw [← mg_up (rung b), show up (rung b) + more + 1 = up (rung b) + (more + 1) by omega, Nat.pow_add]
   generalize val k = V
   generalize 2 ^ up (rung b) = U
   generalize (2 : Nat) ^ (more + 1) = W
   generalize mg (rung b) = B
   simp only [Nat.mul_assoc, Nat.mul_comm, Nat.mul_left_comm]
  have h12 : 2 * (mg (rung a) <<< more) * 2 ^ (up (rung a) + twP) = val (rung a) * 2 ^ twP * 2 ^ (more + 1) := by
   rw [Nat.shiftLeft_eq, ← mg_up (rung a), Nat.pow_add 2 (up (rung a)), Nat.pow_succ]
   generalize mg (rung a) = A
   generalize 2 ^ up (rung a) = U
   generalize (2 : Nat) ^ twP = W
   generalize (2 : Nat) ^ more = Z
   simp only [Nat.mul_assoc, Nat.mul_comm, Nat.mul_left_comm]
  have h13 : val (rung a) * 2 ^ twP * 2 ^ (more + 1) ≤ 3 * (val k * val (rung b)) * 2 ^ (more + 1) := by
   rw [← h11, ← h12]; exact Nat.le_trans h10 h7
  have h14 := Nat.le_of_mul_le_mul_right h13 (Nat.two_pow_pos (more + 1))
  have h15 : 2 ^ 174 * 2 ^ twP ≤ val (rung a) * 2 ^ twP := Nat.mul_le_mul_right _ hva
  have hw : 0 < (2 : Nat) ^ twP := Nat.two_pow_pos _
  generalize (2 : Nat) ^ twP = W at h14 h15 hvk hw
  generalize val k * val (rung b) = P at h14 hvk
  omega
 ·exact hl
def topF : Nat := 1222
theorem far_val : val 5507902344274116608 = 4503599627370496 * 2 ^ topF := by
 unfold val
 rw [if_neg (by omega), show 5507902344274116608 % 4503599627370496 = 0 by decide, show 5507902344274116608 / 4503599627370496 - 1 = topF by decide]
theorem div_fin {a b q : Nat} (ha : a < 18446744073709551616) (hb : b < 18446744073709551616) (sa : someB a = true) (sb : someB b = true) (hq : floatBits .quo .f64 a b = some q) (hc : rung a < 553942754166571008) : finB q = true := by
 obtain ⟨fa, a0⟩ := some_rung sa
 obtain ⟨fb, b0⟩ := some_rung sb
 have a0' : rung a ≠ 0 := by simpa using a0
 have b0' : rung b ≠ 0 := by simpa using b0
 have m1 : mg (rung a) ≠ 0 := by unfold mg; split <;> omega
 have m2 : mg (rung b) ≠ 0 := by unfold mg; split <;> omega
 rw [(fbits_map a b).2.2.2, read_fin ha fa, read_fin hb fb] at hq
 simp only [Ieee.Datum.quotient] at hq
 rw [if_neg m2] at hq
 simp only [Option.map_some, Ieee.Format.write, Option.some.injEq] at hq
 obtain ⟨more, hmore⟩ : ∃ d, 54 + (mg (rung b)).log2 - (mg (rung a)).log2 = d := ⟨_, rfl⟩
 have g1 := quo_more (n := mg (rung b)) m1
 rw [hmore] at hq g1
 have g3 : 1 ≤ mg (rung a) <<< more / mg (rung b) := (Nat.le_div_iff_mul_le (Nat.pos_of_ne_zero m2)).2 (by omega)
 have g4 : mg (rung a) <<< more / mg (rung b) ≤ mg (rung a) <<< more := Nat.div_le_self _ _
 obtain ⟨k, e, hk, c⟩ := near_anyD (sgn a ^^ sgn b) (-1074 + ((up (rung a) : Nat) : Int) - (-1074 + ((up (rung b) : Nat) : Int)) - (more : Int) - 1) (up (rung b) + more + 1) (m := 2 * (mg (rung a) <<< more / mg (rung b)) + (mg (rung a) <<< more % mg (rung b) != 0).toNat) (by omega) (by omega)
 rw [e] at hq
 have hrk : rung q = k := by rw [← hq]; exact (word_rung _ (show k < 9223372036854775808 by omega)).1
 have hexp : (-1074 + ((up (rung a) : Nat) : Int) - (-1074 + ((up (rung b) : Nat) : Int)) - (more : Int) - 1 + 1074 + ((up (rung b) + more + 1 : Nat) : Int)).toNat = up (rung a) + twP := by unfold twP; omega
 rw [hexp] at c
 have hno : ¬ 5507902344274116608 < k := by
  intro h
  have h1 := (c 5507902344274116608 (by omega)).1 h
  have hva : val (rung a) < 2 ^ 174 := by
   rw [← show val 553942754166571008 = 2 ^ 174 by decide]
   exact val_lt hc
  have hb1 : (mg (rung a) <<< more % mg (rung b) != 0).toNat ≤ 1 := by cases (mg (rung a) <<< more % mg (rung b) != 0) <;> simp
  have h2 : (2 * (mg (rung a) <<< more / mg (rung b)) + (mg (rung a) <<< more % mg (rung b) != 0).toNat) * 2 ^ (up (rung a) + twP) ≤ 3 * (mg (rung a) <<< more) * 2 ^ (up (rung a) + twP) := Nat.mul_le_mul_right _ (by omega)
  have h3 : 3 * (mg (rung a) <<< more) * 2 ^ (up (rung a) + twP) = 3 * (val (rung a) * 2 ^ twP * 2 ^ more) := by
   rw [Nat.shiftLeft_eq, ← mg_up (rung a), Nat.pow_add 2 (up (rung a))]
   generalize mg (rung a) = A
   generalize 2 ^ up (rung a) = U
   generalize (2 : Nat) ^ twP = W
   generalize (2 : Nat) ^ more = Z
   simp only [Nat.mul_assoc, Nat.mul_comm, Nat.mul_left_comm]
  have h4 : val (rung a) * 2 ^ twP * 2 ^ more ≤ 2 ^ 174 * 2 ^ twP * 2 ^ more := Nat.mul_le_mul_right _ (Nat.mul_le_mul_right _ (Nat.le_of_lt hva))
  have h5 : (val 5507902344274116608 + val (5507902344274116608 + 1)) * 2 ^ (up (rung b) + more + 1) ≥ 4503599627370496 * 2 ^ topF * 2 ^ more := by
   rw [far_val]
   exact Nat.mul_le_mul (Nat.le_add_right _ _) (Nat.pow_le_pow_right (by omega) (by omega))
  have h6 : (2 : Nat) ^ 174 * 2 ^ twP * 2 ^ more = 2 ^ (174 + twP) * 2 ^ more := by rw [Nat.pow_add 2 174 twP]
  have h7 : 4503599627370496 * (2 : Nat) ^ topF ≥ 8 * 2 ^ (174 + twP) := by
   have e1 : (8 : Nat) * 2 ^ (174 + twP) = 2 ^ (177 + twP) := by rw [show (8 : Nat) = 2 ^ 3 by decide, ← Nat.pow_add, show 3 + (174 + twP) = 177 + twP by omega]
   have e2 : (2 : Nat) ^ (177 + twP) ≤ 2 ^ (52 + topF) := Nat.pow_le_pow_right (by omega) (by unfold twP topF; omega)
   have e3 : (2 : Nat) ^ (52 + topF) = 4503599627370496 * 2 ^ topF := by rw [Nat.pow_add]
   rw [e1, ← e3]; exact e2
  have h7' := Nat.mul_le_mul_right (2 ^ more) h7
  rw [Nat.mul_assoc 8] at h7'
  rw [h6] at h4
  have hz : 0 < (2 : Nat) ^ (174 + twP) * 2 ^ more := Nat.mul_pos (Nat.two_pow_pos _) (Nat.two_pow_pos _)
  unfold aboveD at h1
  clear h7
  generalize 4503599627370496 * (2 : Nat) ^ topF * 2 ^ more = T at *
  generalize (2 : Nat) ^ (174 + twP) * 2 ^ more = Z at *
  generalize (val 5507902344274116608 + val (5507902344274116608 + 1)) * 2 ^ (up (rung b) + more + 1) = Y at *
  generalize (2 * (mg (rung a) <<< more / mg (rung b)) + (mg (rung a) <<< more % mg (rung b) != 0).toNat) * 2 ^ (up (rung a) + twP) = X at *
  rw [h3] at h2
  generalize val (rung a) * 2 ^ twP * 2 ^ more = V at *
  rcases h1 with g | ⟨g, _⟩ <;> omega
 unfold finB
 rw [hrk]
 exact decide_eq_true (by omega)
def kQ (a b : Nat) : Nat := (floatBits .quo .f64 a b).getD 0
def kS (a b : Nat) : Int := if finB (kQ a b) then (if sgn b then -sgI (exX (negW (kQ a b)) b a) else sgI (exX (negW (kQ a b)) b a)) else if sgn (kQ a b) then 1 else -1
theorem sgI_bd (x : Int) : -1 ≤ sgI x ∧ sgI x ≤ 1 := by unfold sgI; (repeat' split) <;> omega
theorem exX_nought {x y z : Nat} (h : rung x = 0) : exX x y z = 0 ∨ 2 ^ twP ≤ (exX x y z).natAbs := by
 refine big_of_dvd (j := twP) ?_ (Nat.le_refl _)
 rw [exX_un (L := twP) rfl]
 have e : vI x = 0 := by unfold vI; rw [h]; cases sgn x <;> rfl
 rw [e, Int.zero_mul, Int.zero_add]
 exact Int.dvd_mul_left _ _
theorem fma_inf2 {x b z : Nat} (hx : x < 18446744073709551616) (hb : b < 18446744073709551616) (hz : z < 18446744073709551616) (ix : rung x = 9218868437227405312) (fb : finB b = true) (b0 : rung b ≠ 0) (fz : finB z = true) : ∃ f, FloatKind.f64.format.fma x b z = some f ∧ rung f = 9218868437227405312 ∧ sgn f = (sgn x ^^ sgn b) := by
 show ∃ f, (((Ieee.double.read x).product (Ieee.double.read b)).bind (·.sum (Ieee.double.read z))).map Ieee.double.write = some f ∧ _
 have m0 : mg (rung b) ≠ 0 := by unfold mg; split <;> omega
 rw [read_fin hb fb, read_fin hz fz, read_eq x hx, if_neg (by omega), if_pos ix]
 simp only [Ieee.Datum.product]
 rw [if_neg m0]
 simp only [Option.bind_some, Ieee.Datum.sum, Option.map_some]
 refine ⟨_, rfl, ?_⟩
 cases (sgn x ^^ sgn b) <;> exact ⟨by decide, by decide⟩
theorem wrap_neg {s : Int} (h1 : -1 ≤ s) (h2 : s ≤ 1) : IntKind.i64.wrap (-s) = -s := by
 rcases (show s = -1 ∨ s = 0 ∨ s = 1 by omega) with rfl | rfl | rfl <;> rfl
set_option maxHeartbeats 1000000 in
theorem rdiv_walk (a b q : Nat) (s m : Int) (ha : a < 18446744073709551616) (hb : b < 18446744073709551616) (sa : someB a = true) (sb : someB b = true) (hq : floatBits .quo .f64 a b = some q) (hql : q < 18446744073709551616) (s1 : -1 ≤ s) (s2 : s ≤ 1)
  (cs : ∀ w, TabW w → Calls Tryz.prog 75 #[.float .f64 (negW q), .float .f64 b, .float .f64 a] w fun e w' => e = .returned (.int .i64 s) ∧ Below w.heap.size w w') (w : World) (hT : TabW w) :
  Calls Tryz.prog 58 #[.float .f64 a, .float .f64 b, .int .i8 m] w fun e w' => e = .returned (.float .f64 (stepF q (if sgn b then -s else s) m)) ∧ Below w.heap.size w w' := by
 have h1 := fun w => run_float_arith (P := Tryz.prog) w .quo 36 .f64 _ _ _ hq
 have hu := run_negf
 have ca := some_any a ha
 have cb := some_any b hb
 have hz := zero_eq hb
 rw [(some_rung sb).2] at hz
 have hcv := conv64 q
 have hl := (root_neg hb sb).1
 have hw := wrap_neg s1 s2
 rw [sa] at ca
 rw [sb] at cb
 clear hq s1 s2
 cases hs : sgn b <;> rw [hs] at hl <;> simp only [Bool.false_eq_true, if_false, if_true]
 ·go_enter Tryz.func58, Tryz.ntmps58
  go_wp2_with (first
   | (go_at_call_of 73 (Value.float FloatKind.f64 a); refine (ca _).mono ?_; rintro e w' ⟨rfl, rfl⟩)
   | (go_at_call_of 73 (Value.float FloatKind.f64 b); refine (cb _).mono ?_; rintro e w' ⟨rfl, rfl⟩)
   | (go_at_call 75; refine (cs _ hT).mono ?_; rintro e w1 ⟨rfl, b1⟩)
   | (go_at_call 74; refine (step_any _ _ _ hql _).mono ?_; rintro e w' ⟨rfl, rfl⟩))
  go_ret
  exact ⟨rfl, b1⟩
 ·go_enter Tryz.func58, Tryz.ntmps58
  go_wp2_with (first
   | (go_at_call_of 73 (Value.float FloatKind.f64 a); refine (ca _).mono ?_; rintro e w' ⟨rfl, rfl⟩)
   | (go_at_call_of 73 (Value.float FloatKind.f64 b); refine (cb _).mono ?_; rintro e w' ⟨rfl, rfl⟩)
   | (go_at_call 75; refine (cs _ hT).mono ?_; rintro e w1 ⟨rfl, b1⟩)
   | (go_at_call 74; refine (step_any _ _ _ hql _).mono ?_; rintro e w' ⟨rfl, rfl⟩))
  go_ret
  exact ⟨rfl, b1⟩
theorem rdiv_any (a b : Nat) (m : Int) (ha : a < 18446744073709551616) (hb : b < 18446744073709551616) (sa : someB a = true) (sb : someB b = true) (w : World) (hT : TabW w) :
  floatBits .quo .f64 a b = some (kQ a b) ∧ Calls Tryz.prog 58 #[.float .f64 a, .float .f64 b, .int .i8 m] w fun e w' => e = .returned (.float .f64 (stepF (kQ a b) (kS a b) m)) ∧ Below w.heap.size w w' := by
 have fa := (some_rung sa).1
 have fb := (some_rung sb).1
 have b0 : rung b ≠ 0 := by simpa using (some_rung sb).2
 have m0 : mg (rung b) ≠ 0 := by unfold mg; split <;> omega
 obtain ⟨q, hq⟩ : ∃ q, floatBits .quo .f64 a b = some q := by
  rw [(fbits_map a b).2.2.2, read_fin ha fa, read_fin hb fb]
  simp only [Ieee.Datum.quotient]
  rw [if_neg m0]
  exact ⟨_, rfl⟩
 have eq : kQ a b = q := by unfold kQ; rw [hq]; rfl
 have eS : kS a b = if finB q then (if sgn b then -sgI (exX (negW q) b a) else sgI (exX (negW q) b a)) else if sgn q then 1 else -1 := by unfold kS; rw [eq]
 rw [eS, eq]
 refine ⟨hq, ?_⟩
 obtain ⟨q1, q2⟩ := op_word (op := .quo) (Or.inr (Or.inr (Or.inr rfl))) hq
 obtain ⟨r1, r2⟩ := neg_rung q1
 have hN := negW_lt q1
 have hra := fin_rung fa
 by_cases hc : 553942754166571008 ≤ rung a
 ·obtain ⟨f, hf⟩ := fma_told hN hb ha (by rw [r1]; exact q2) fb b0 fa
  have ht := calm_test hc (by omega)
  have hbd := signF_bd f
  have hd := rdiv_walk a b q (signF f) m ha hb sa sb hq q1 hbd.1 hbd.2 (fun w _ => (signOf_great (negW q) b a f ha ht hf (fma_word hf).1 w).mono fun e w' h => by
   obtain ⟨rfl, rfl⟩ := h
   exact ⟨rfl, Below.refl _ _⟩) w hT
  have hs : (if sgn b then -signF f else signF f) = if finB q then (if sgn b then -sgI (exX (negW q) b a) else sgI (exX (negW q) b a)) else if sgn q then 1 else -1 := by
   cases fq : finB q
   ·have iq : rung (negW q) = 9218868437227405312 := by rw [r1]; unfold finB at fq; simp at fq; omega
    obtain ⟨g, g1, g2, g3⟩ := fma_inf2 hN hb ha iq fb b0 fa
    rw [hf] at g1
    rw [Option.some.inj g1, signF_inf g2, g3, r2]
    cases sgn q <;> cases sgn b <;> rfl
   ·have fn : finB (negW q) = true := (neg_fin q1).trans fq
    have hsx : signF f = sgI (exX (negW q) b a) := by
     refine fma_sign hN hb ha fn fb fa hf ?_
     by_cases q0 : rung q = 0
     ·exact exX_nought (r1.trans q0)
     ·refine exX_big ?_
      rw [r1]
      exact div_places ha hb sa sb hq hc q0 fq
    rw [hsx]
    simp
  rw [hs] at hd
  exact hd
 ·have ht : (FloatKind.f64.format.order (rung a) 553942754166571008 == some .lt) = true := by
   rw [lt_num (by omega) (by omega) (nan_small (by omega)) (by decide), place_small (by omega), place_small (by omega)]
   exact decide_eq_true (by omega)
  have fq := div_fin ha hb sa sb hq (by omega)
  ·rw [fq]
   have fn : finB (negW q) = true := (neg_fin q1).trans fq
   have hbd := sgI_bd (exX (negW q) b a)
   exact rdiv_walk a b q (sgI (exX (negW q) b a)) m ha hb sa sb hq q1 hbd.1 hbd.2 (fun w h => signOf_small (negW q) b a hN hb ha fn fb fa ht w h) w hT
end Go.Proofs.YtfipmopmpacdaaaGreatDoor
