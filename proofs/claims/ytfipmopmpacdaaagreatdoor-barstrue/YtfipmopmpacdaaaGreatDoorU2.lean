/- What Finite, Sign, Fits answer. -/
import Derived.Test.YtfipmopmpacdaaaGreatDoorZi
import Derived.Test.YtfipmopmpacdaaaGreatDoorZo
import Derived.Test.YtfipmopmpacdaaaGreatDoorZp
import Derived.Test.YtfipmopmpacdaaaGreatDoorZg
namespace Go.Proofs.YtfipmopmpacdaaaGreatDoor
def vI (a : Nat) : Int := if sgn a then -(val (rung a) : Int) else (val (rung a) : Int)
def dz (X : Int) : Dy := (nrm X (-2148)).1
theorem nrm_told {X e : Int} (h : bl X.natAbs ≤ 16384) (h1 : -65536 ≤ e) (h2 : e ≤ 40000) : (nrm X e).2 = 0 := by
 unfold nrm
 split
 ·rfl
 ·rename_i h0
  have h3 := tz_lt_bl (v := X.natAbs) (by omega)
  rw [if_neg (by omega)]
theorem dz_told {X : Int} (h : bl X.natAbs ≤ 16384) : nrm X (-2148) = (dz X, 0) := by
 unfold dz
 rw [← nrm_told h (by omega) (by omega) (e := -2148)]
theorem fq_zero {a : Nat} (hf : finB a = true) (h0 : rung a = 0) : ofD a = (dy0, 0) := by
 have e1 : spF a = 0 := by unfold spF; rw [if_pos h0]
 unfold ofD; rw [if_neg (by rw [hf]; simp), if_pos e1]
theorem fq_some {a : Nat} (hf : finB a = true) (h0 : rung a ≠ 0) : ofD a = (⟨sgn a, [spF a], spE a⟩, 0) := by
 have h1 := (sp_bd hf h0).1
 unfold ofD; rw [if_neg (by rw [hf]; simp), if_neg h1]
theorem fq_right {a : Nat} (hf : finB a = true) (h0 : rung a ≠ 0) : rightB ⟨sgn a, [spF a], spE a⟩ = true := by
 obtain ⟨b1, b2, b3, b4, b5, b6⟩ := sp_bd hf h0
 have p2 := (sp_parts h0).2.1
 exact right_of (by simp) ⟨by simp, by simpa using p2, by simpa using b1, by simp only; omega, by simp only; omega⟩
theorem pow_cast (K : Nat) : ((2 ^ K : Nat) : Int) = (2 : Int) ^ K := by push_cast; rfl
theorem fq_qd {a : Nat} (hf : finB a = true) {K : Nat} (hK : K = 64462) : (ofD a).2 = 0 ∧ rightB (ofD a).1 = true ∧ Lm (ofD a).1.mag ∧ qd (ofD a).1 = vI a * 2 ^ K := by
 by_cases h0 : rung a = 0
 ·rw [fq_zero hf h0]
  refine ⟨rfl, rfl, fun x hx => by simp [dy0] at hx, ?_⟩
  have e1 : qd dy0 = 0 := by unfold qd; rw [show sv dy0 = 0 from rfl, Int.zero_mul]
  have e2 : vI a = 0 := by unfold vI; rw [h0, val_zero]; cases sgn a <;> rfl
  rw [show ((dy0, (0 : Int)).1) = dy0 from rfl, e1, e2, Int.zero_mul]
 ·rw [fq_some hf h0]
  obtain ⟨p1, p2, p3⟩ := sp_parts h0
  obtain ⟨b1, b2, b3, b4, b5, b6⟩ := sp_bd hf h0
  refine ⟨rfl, fq_right hf h0, fun y hy => by simp at hy; omega, ?_⟩
  have hs : (spF a * 2 ^ (spE a + 65536).toNat : Nat) = val (rung a) * 2 ^ K := by
   rw [← mg_up, ← p1, Nat.mul_assoc, Nat.mul_assoc, ← Nat.pow_add, ← Nat.pow_add]
   congr 2
   omega
  have hs' : ((spF a : Int)) * 2 ^ (spE a + 65536).toNat = (val (rung a) : Int) * 2 ^ K := by
   have h := congrArg (fun n : Nat => (n : Int)) hs
   simp only [Int.natCast_mul, pow_cast] at h
   exact h
  unfold qd sv vI
  simp only [show vl [spF a] = spF a by simp [vl]]
  cases sgn a
  ·simpa using hs'
  ·simp only [if_true]
   rw [Int.neg_mul, Int.neg_mul, hs']
theorem vI_lt {a : Nat} (hf : finB a = true) {V : Nat} (hV : V = 2098) : (vI a).natAbs < 2 ^ V := by
 have h1 := fin_rung hf
 have h2 : (vI a).natAbs = val (rung a) := by unfold vI; split <;> omega
 rw [h2, ← mg_up]
 have h3 := mg_lt (rung a)
 have h4 : up (rung a) ≤ V - 53 := by unfold up; split <;> omega
 calc mg (rung a) * 2 ^ up (rung a) ≤ mg (rung a) * 2 ^ (V - 53) := Nat.mul_le_mul_left _ (Nat.pow_le_pow_right (by omega) h4)
  _ < 2 ^ 53 * 2 ^ (V - 53) := (Nat.mul_lt_mul_right (Nat.pow_pos (by omega))).2 (by omega)
  _ = 2 ^ V := by rw [← Nat.pow_add]; congr 1; omega
theorem shift_nrm (m : Int) (k : Nat) (e : Int) : nrm (m * 2 ^ k) e = nrm m (e + k) := by
 have h := nrm_shift m (e + k) k
 rw [show e + (k : Int) - k = e by omega] at h
 exact h
def exX (x y z : Nat) : Int := vI x * vI y + vI z * 2 ^ (1074 : Nat)
theorem exX_un {x y z L : Nat} (hL : L = 1074) : exX x y z = vI x * vI y + vI z * 2 ^ L := by rw [hL]; rfl
theorem exX_lt {x y z : Nat} (fx : finB x = true) (fy : finB y = true) (fz : finB z = true) : bl (vI x * vI y).natAbs ≤ 16384 ∧ bl (exX x y z).natAbs ≤ 16384 := by
 obtain ⟨V, hV⟩ : ∃ V : Nat, V = 2098 := ⟨_, rfl⟩
 obtain ⟨L, hL⟩ : ∃ L : Nat, L = 1074 := ⟨_, rfl⟩
 obtain ⟨G, hG⟩ : ∃ G : Nat, G = 16384 := ⟨_, rfl⟩
 have h1 : (vI x * vI y).natAbs < 2 ^ (V + V) := by
  rw [Int.natAbs_mul, Nat.pow_add]
  calc (vI x).natAbs * (vI y).natAbs ≤ (vI x).natAbs * 2 ^ V := Nat.mul_le_mul_left _ (Nat.le_of_lt (vI_lt fy hV))
   _ < 2 ^ V * 2 ^ V := (Nat.mul_lt_mul_right (Nat.pow_pos (by omega))).2 (vI_lt fx hV)
 have h2 : (vI z * 2 ^ L).natAbs < 2 ^ (V + V) := by
  rw [Int.natAbs_mul, Int.natAbs_pow]
  calc (vI z).natAbs * 2 ^ L < 2 ^ V * 2 ^ L := (Nat.mul_lt_mul_right (Nat.pow_pos (by omega))).2 (vI_lt fz hV)
   _ = 2 ^ (V + L) := by rw [← Nat.pow_add]
   _ ≤ 2 ^ (V + V) := Nat.pow_le_pow_right (by omega) (by omega)
 have h3 : (exX x y z).natAbs < 2 ^ (V + V + 1) := by
  rw [Nat.pow_succ, exX_un hL]
  generalize (2 : Nat) ^ (V + V) = Q at *
  generalize vI z * 2 ^ L = Y at *
  generalize vI x * vI y = Z at *
  omega
 have g : ∀ n, n ≤ G → (2 : Nat) ^ n ≤ 2 ^ G := fun n h => Nat.pow_le_pow_right (by omega) h
 rw [← hG]
 exact ⟨bl_le_iff.2 (Nat.lt_of_lt_of_le h1 (g _ (by omega))), bl_le_iff.2 (Nat.lt_of_lt_of_le h3 (g _ (by omega)))⟩
theorem dz_qd {X : Int} (h : bl X.natAbs ≤ 16384) {K : Nat} (hK : K = 63388) : rightB (dz X) = true ∧ Lm (dz X).mag ∧ qd (dz X) = X * 2 ^ K := by
 have h0 : (nrm X (-2148)).2 = 0 := by rw [dz_told h]
 have h1 := (nrm_ok h0).1
 have e : nrm X (-2148) = nrm (X * 2 ^ K) (-65536) := by
  rw [shift_nrm, show (-65536 : Int) + (K : Nat) = -2148 by omega]
 refine ⟨h1, nrm_lm _ _, ?_⟩
 have h2 : (nrm (X * 2 ^ K) (-65536)).2 = 0 := by rw [← e]; exact h0
 have h3 := (nrm_q h2).2
 rw [← e] at h3
 exact h3
theorem mul_fq {x y : Nat} (fx : finB x = true) (fy : finB y = true) : mulD (ofD x).1 (ofD y).1 = (dz (vI x * vI y), 0) := by
 obtain ⟨K, hK⟩ : ∃ K : Nat, K = 64462 := ⟨_, rfl⟩
 obtain ⟨_, r1, _, q1⟩ := fq_qd fx hK
 obtain ⟨_, r2, _, q2⟩ := fq_qd fy hK
 have hb := (exX_lt fx fy fx).1
 unfold mulD
 rw [r1, r2, q1, q2]
 simp only [Bool.and_self, if_true]
 rw [show vI x * 2 ^ K * (vI y * 2 ^ K) = vI x * vI y * 2 ^ (K + K) by rw [Int.pow_add]; ac_rfl, shift_nrm]
 rw [show (-131072 : Int) + ((K + K : Nat) : Int) = -2148 by omega]
 exact dz_told hb
theorem add_fq {x y z : Nat} (fx : finB x = true) (fy : finB y = true) (fz : finB z = true) : addD (dz (vI x * vI y)) (ofD z).1 = (dz (exX x y z), 0) := by
 obtain ⟨K, hK⟩ : ∃ K : Nat, K = 63388 := ⟨_, rfl⟩
 obtain ⟨L, hL⟩ : ∃ L : Nat, L = 1074 := ⟨_, rfl⟩
 obtain ⟨b1, b2⟩ := exX_lt fx fy fz
 obtain ⟨r1, _, q1⟩ := dz_qd b1 hK
 obtain ⟨_, r2, _, q2⟩ := fq_qd fz (K := L + K) (by omega)
 unfold addD
 rw [r1, r2, q1, q2]
 simp only [Bool.and_self, if_true]
 have e : vI x * vI y * 2 ^ K + vI z * 2 ^ (L + K) = exX x y z * 2 ^ K := by
  rw [exX_un hL, Int.add_mul, Int.mul_assoc (vI z), ← Int.pow_add]
 rw [e, shift_nrm, show (-65536 : Int) + (K : Nat) = -2148 by omega]
 exact dz_told b2
theorem dz_sign {X : Int} (h : bl X.natAbs ≤ 16384) : sgD (dz X) = sgI X := by
 obtain ⟨K, hK⟩ : ∃ K : Nat, K = 63388 := ⟨_, rfl⟩
 obtain ⟨r, _, q⟩ := dz_qd h hK
 unfold dz nrm at *
 by_cases h0 : X = 0
 ·rw [if_pos h0] at *
  rw [h0]; rfl
 ·have h3 := tz_lt_bl (v := X.natAbs) (by omega)
  rw [if_neg h0, if_neg (by omega)]
  obtain ⟨t1, t2⟩ := tz_div (v := X.natAbs) (by omega)
  have hl : (lo (X.natAbs / 2 ^ tz X.natAbs)).length ≠ 0 := (lo_last (by omega)).2
  unfold sgD
  rw [if_neg hl]
  unfold sgI
  by_cases hneg : X < 0
  ·rw [if_pos hneg]; simp [hneg]
  ·rw [if_neg hneg, if_neg h0]; simp [hneg]
open Go.RowKit
theorem fbits_map (x y : Nat) : (floatBits .add .f64 x y = ((Ieee.double.read x).sum (Ieee.double.read y)).map Ieee.double.write) ∧ (floatBits .sub .f64 x y = ((Ieee.double.read x).sum (Ieee.double.read y).opposite).map Ieee.double.write) ∧ (floatBits .mul .f64 x y = ((Ieee.double.read x).product (Ieee.double.read y)).map Ieee.double.write) ∧ (floatBits .quo .f64 x y = ((Ieee.double.read x).quotient 54 (Ieee.double.read y)).map Ieee.double.write) := ⟨rfl, rfl, rfl, rfl⟩
theorem prod_nan {x y d : Ieee.Datum} (h : x.product y = some d) : d.isNaN = false := by
 unfold Ieee.Datum.product at h
 split at h
 ·cases h
 ·cases h
 ·cases h; rfl
 ·split at h
  ·cases h
  ·cases h; rfl
 ·split at h
  ·cases h
  ·cases h; rfl
 ·cases h; rfl
theorem quot_nan {n : Nat} {x y d : Ieee.Datum} (h : x.quotient n y = some d) : d.isNaN = false := by
 unfold Ieee.Datum.quotient at h
 split at h
 ·cases h
 ·cases h
 ·cases h
 ·cases h; rfl
 ·cases h; rfl
 ·split at h
  ·split at h
   ·cases h
   ·cases h; rfl
  ·cases h; rfl
theorem root_nan {n : Nat} {x d : Ieee.Datum} (h : x.root n = some d) : d.isNaN = false := by
 unfold Ieee.Datum.root at h
 split at h
 ·cases h
 ·split at h
  ·cases h
  ·cases h; rfl
 ·split at h
  ·cases h; rfl
  ·split at h
   ·cases h
   ·cases h; rfl
def FourOp (op : BinOp) : Prop := op = .add ∨ op = .sub ∨ op = .mul ∨ op = .quo
theorem op_word {op : BinOp} (hop : FourOp op) {a b r : Nat} (h : floatBits op .f64 a b = some r) : r < 18446744073709551616 ∧ rung r ≤ 9218868437227405312 := by
 rcases hop with rfl | rfl | rfl | rfl
 ·exact add_word h
 ·exact sum_word (fun _ h => sum_nan h) (show ((Ieee.double.read a).sum (Ieee.double.read b).opposite).map Ieee.double.write = some r from h)
 ·exact sum_word (fun _ h => prod_nan h) (show ((Ieee.double.read a).product (Ieee.double.read b)).map Ieee.double.write = some r from h)
 ·exact sum_word (fun _ h => quot_nan h) (show ((Ieee.double.read a).quotient 54 (Ieee.double.read b)).map Ieee.double.write = some r from h)
theorem sqrt_word {a r : Nat} (h : FloatKind.f64.format.sqrt a = some r) : r < 18446744073709551616 ∧ rung r ≤ 9218868437227405312 :=
 sum_word (fun _ h => root_nan h) (show ((Ieee.double.read a).root 54).map Ieee.double.write = some r from h)
theorem fma_word {a b c r : Nat} (h : FloatKind.f64.format.fma a b c = some r) : r < 18446744073709551616 ∧ rung r ≤ 9218868437227405312 :=
 sum_word (o := ((Ieee.double.read a).product (Ieee.double.read b)).bind (·.sum (Ieee.double.read c))) (fun d h => by
  cases hp : (Ieee.double.read a).product (Ieee.double.read b) with
  | none => rw [hp] at h; cases h
  | some e => rw [hp] at h; exact sum_nan h) h
theorem rung_nan {r : Nat} (h : rung r ≤ 9218868437227405312) : nanB r = false := by unfold nanB; simpa using h
theorem read_nan {x : Nat} (hx : x < 18446744073709551616) (nx : nanB x = true) : ∃ s t, Ieee.double.read x = .nan s t := by
 have h : 9218868437227405312 < rung x := by simpa [nanB] using nx
 rw [read_eq x hx, if_neg (by omega), if_neg (by omega)]
 exact ⟨_, _, rfl⟩
theorem op_nan {op : BinOp} (hop : FourOp op) {a b : Nat} (ha : a < 18446744073709551616) (hb : b < 18446744073709551616) (h : nanB a = true ∨ nanB b = true) : floatBits op .f64 a b = none := by
 obtain ⟨f1, f2, f3, f4⟩ := fbits_map a b
 rcases h with h | h
 ·obtain ⟨s, t, e⟩ := read_nan ha h
  rcases hop with rfl | rfl | rfl | rfl
  ·rw [f1, e]; cases Ieee.double.read b <;> rfl
  ·rw [f2, e]; cases Ieee.double.read b <;> rfl
  ·rw [f3, e]; cases Ieee.double.read b <;> rfl
  ·rw [f4, e]; cases Ieee.double.read b <;> rfl
 ·obtain ⟨s, t, e⟩ := read_nan hb h
  rcases hop with rfl | rfl | rfl | rfl
  ·rw [f1, e]; cases Ieee.double.read a <;> rfl
  ·rw [f2, e]; cases Ieee.double.read a <;> rfl
  ·rw [f3, e]; cases Ieee.double.read a <;> rfl
  ·rw [f4, e]; cases Ieee.double.read a <;> rfl
theorem run_nan4 {P : Program} {op : BinOp} (hop : FourOp op) (t : TypeId) (x y : Nat) (h : floatBits op .f64 x y = none) (w : World) : (binOp op t (.float .f64 x) (.float .f64 y)).run P w = .ok (.float .f64 (nanW x y w)) w.drew := by
 rcases hop with rfl | rfl | rfl | rfl
 ·exact run_nan .add (Or.inr rfl) t x y h w
 ·exact run_nan .sub (Or.inl rfl) t x y h w
 ·have h' : Ieee.double.mul x y = none := h
  simp [binOp, Op.floatArith, fmt64, h', Question.forced, nanW]
 ·have h' : Ieee.double.div x y = none := h
  simp [binOp, Op.floatArith, fmt64, h', Question.forced, nanW]
theorem run_op4 {P : Program} {op : BinOp} (hop : FourOp op) (t : TypeId) (x y : Nat) (w : World) : (binOp op t (.float .f64 x) (.float .f64 y)).run P w = .ok (.float .f64 (opR op x y w)) (opW op x y w) := by
 unfold opR opW
 cases h : floatBits op .f64 x y with
 | none => exact run_nan4 hop t x y h w
 | some r => exact run_float_arith w op t .f64 x y r h
theorem op_NR {op : BinOp} (hop : FourOp op) {a b : Nat} (w : World) : NR (floatBits op .f64 a b) (opR op a b w) := by
 unfold opR NR
 cases h : floatBits op .f64 a b with
 | none => exact ⟨(nanW_nan a b w).2, (nanW_nan a b w).1⟩
 | some r => exact ⟨(op_word hop h).1, rfl⟩
theorem fma_told {x y z : Nat} (hx : x < 18446744073709551616) (hy : y < 18446744073709551616) (hz : z < 18446744073709551616) (rx : rung x ≤ 9218868437227405312) (fy : finB y = true) (y0 : rung y ≠ 0) (fz : finB z = true) : ∃ f, FloatKind.f64.format.fma x y z = some f := by
 show ∃ f, (((Ieee.double.read x).product (Ieee.double.read y)).bind (·.sum (Ieee.double.read z))).map Ieee.double.write = some f
 rw [read_fin hy fy, read_fin hz fz]
 have m0 : mg (rung y) ≠ 0 := by unfold mg; split <;> omega
 cases fx : finB x
 ·have hi : rung x = 9218868437227405312 := by unfold finB at fx; simp at fx; omega
  rw [read_eq x hx, if_neg (by omega), if_pos hi]
  simp only [Ieee.Datum.product]
  rw [if_neg m0]
  exact ⟨_, rfl⟩
 ·rw [read_fin hx fx]
  exact ⟨_, rfl⟩
theorem fma_told2 {x y z : Nat} (hx : x < 18446744073709551616) (hy : y < 18446744073709551616) (hz : z < 18446744073709551616) (fx : finB x = true) (fy : finB y = true) (rz : rung z ≤ 9218868437227405312) : ∃ f, FloatKind.f64.format.fma x y z = some f := by
 show ∃ f, (((Ieee.double.read x).product (Ieee.double.read y)).bind (·.sum (Ieee.double.read z))).map Ieee.double.write = some f
 rw [read_fin hy fy, read_fin hx fx]
 cases fz : finB z
 ·have hi : rung z = 9218868437227405312 := by unfold finB at fz; simp at fz; omega
  rw [read_eq z hz, if_neg (by omega), if_pos hi]
  exact ⟨_, rfl⟩
 ·rw [read_fin hz fz]
  exact ⟨_, rfl⟩
theorem calm_test {z : Nat} (h : 553942754166571008 ≤ rung z) (hr : rung z ≤ 9218868437227405312) : (FloatKind.f64.format.order (rung z) 553942754166571008 == some .lt) = false := by
 have hs := rung_lt z
 rw [lt_num (by omega) (by omega) (nan_small (by omega)) (by decide), place_small (by omega), place_small (by omega)]
 exact decide_eq_false (by omega)
set_option maxHeartbeats 400000 in
theorem Sign_ok (neg : Bool) (xs : List Nat) (ex : Int) (ao : Option Addr) (cap : Nat) (w : World) (hr : LRow w ao xs) (hL : Lm xs) (hR : rightB ⟨neg, xs, ex⟩ = true) :
  Calls Tryz.prog 90 #[.agg #[.bool neg, .slice ao xs.length cap, .int .i64 ex]] w fun e w' => e = .returned (.tuple #[.int .i64 (sgD ⟨neg, xs, ex⟩), .int .i64 0]) ∧ Below w.heap.size w w' := by
 go_enter Tryz.func90, Tryz.ntmps90
 go_wp2_with (first | (go_at_call 105; refine (right_any ⟨neg, xs, ex⟩ ao cap _ (hr.alloc _) hL).mono ?_; rintro e w1 ⟨rfl, hb1⟩; obtain ⟨⟨c0, c1, c2⟩, ho1⟩ := one_box hb1) | (go_at_call 106; refine (sign_any ⟨neg, xs, ex⟩ ao cap _).mono ?_; rintro e w2 ⟨rfl, hb2⟩))
 go_ret2
 exact ⟨rfl, ho1.trans (hb2.mono ho1.size)⟩
end Go.Proofs.YtfipmopmpacdaaaGreatDoor
