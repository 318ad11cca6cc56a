/- What a sum, a product of two floats loses, told exactly by TwoSum and TwoProd: plain, no program in this text. -/
import Derived.Test.YtlkmmfmnggejlaaDoorZ8
import Derived.Test.YtlkmmfmnggejlaaDoorZ15
import Derived.Test.YtlkmmfmnggejlaaDoorY4
namespace Go.Proofs.YtlkmmfmnggejlaaDoor
open Go.RowKit

def tsS (a b : Nat) : Option Nat := opO .add (toO a) (toO b)
def tsP (a b : Nat) : Option Nat := opO .sub (tsS a b) (toO a)
def tsR (a b : Nat) : Option Nat := opO .add (opO .sub (toO a) (opO .sub (tsS a b) (tsP a b))) (opO .sub (toO b) (tsP a b))
def vS (a b : Nat) (w : World) : Nat := opR .add a b w
def uS (a b : Nat) (w : World) : World := opW .add a b w
def vP (a b : Nat) (w : World) : Nat := opR .sub (vS a b w) a (uS a b w)
def uP (a b : Nat) (w : World) : World := opW .sub (vS a b w) a (uS a b w)
def vQ (a b : Nat) (w : World) : Nat := opR .sub (vS a b w) (vP a b w) (uP a b w)
def uQ (a b : Nat) (w : World) : World := opW .sub (vS a b w) (vP a b w) (uP a b w)
def vX (a b : Nat) (w : World) : Nat := opR .sub a (vQ a b w) (uQ a b w)
def uX (a b : Nat) (w : World) : World := opW .sub a (vQ a b w) (uQ a b w)
def vY (a b : Nat) (w : World) : Nat := opR .sub b (vP a b w) (uX a b w)
def uY (a b : Nat) (w : World) : World := opW .sub b (vP a b w) (uX a b w)
def vE (a b : Nat) (w : World) : Nat := opR .add (vX a b w) (vY a b w) (uY a b w)
theorem two_facts (a b : Nat) (ha : a < 18446744073709551616) (hb : b < 18446744073709551616) (w : World) : Hid (NR (tsS a b) (vS a b w) ∧ NR (tsR a b) (vE a b w) ∧ Below w.heap.size w (opW .add (vX a b w) (vY a b w) (uY a b w))) := by
  show _ ∧ _
  have fa : FourOp .add := Or.inl rfl
  have fs : FourOp .sub := Or.inr (Or.inl rfl)
  have na := toO_NR ha
  have nb := toO_NR hb
  have n1 : NR (tsS a b) (vS a b w) := opO_NR fa na nb w
  have n2 : NR (tsP a b) (vP a b w) := opO_NR fs n1 na _
  have n3 : NR (opO .sub (tsS a b) (tsP a b)) (vQ a b w) := opO_NR fs n1 n2 _
  have n4 : NR (opO .sub (toO a) (opO .sub (tsS a b) (tsP a b))) (vX a b w) := opO_NR fs na n3 _
  have n5 : NR (opO .sub (toO b) (tsP a b)) (vY a b w) := opO_NR fs nb n2 _
  exact ⟨n1, opO_NR fa n4 n5 _, opW_below .add _ _ (opW_below .sub _ _ (opW_below .sub _ _ (opW_below .sub _ _ (opW_below .sub _ _ (opW_below .add _ _ (Below.refl _ _))))))⟩
set_option maxHeartbeats 1000000 in
theorem twosum_any (a b : Nat) (ha : a < 18446744073709551616) (hb : b < 18446744073709551616) (w : World) :
    Calls Tryd.prog 9 #[.float .f64 a, .float .f64 b] w fun e w' => ∃ s r, e = .returned (.tuple #[.float .f64 s, .float .f64 r]) ∧ NR (tsS a b) s ∧ NR (tsR a b) r ∧ Below w.heap.size w w' := by
  have h1 := fun x y w => run_op4 (P := Tryd.prog) (op := .add) (Or.inl rfl) 22 x y w
  have h2 := fun x y w => run_op4 (P := Tryd.prog) (op := .sub) (Or.inr (Or.inl rfl)) 22 x y w
  have hcv := conv64
  have HN := two_facts a b ha hb w
  clear ha hb
  go_enter Tryd.func9, Tryd.ntmps9
  go_wp2
  exact bodyPost_ret (v := .tuple #[.float .f64 (vS a b w), .float .f64 (vE a b w)]) (by simp [results, Tryd.results9, go_sem, vS, vP, vQ, vX, vY, vE, uS, uP, uQ, uX, uY]) rfl ⟨_, _, rfl, HN.out.1, HN.out.2.1, HN.out.2.2⟩
end Go.Proofs.YtlkmmfmnggejlaaDoor

namespace Go.Proofs.YtlkmmfmnggejlaaDoor
open Go.RowKit

/-- What a product loses, all NaN as one. -/
def tpO (a b : Nat) : Option Nat := (floatBits .mul .f64 a b).bind fun p => fuO a b (negW p) 0
theorem tp_told {a b r : Nat} (ha : a < 18446744073709551616) (hb : b < 18446744073709551616) (h : NR (floatBits .mul .f64 a b) r) : fuO a b (negW r) 0 = tpO a b := by
  unfold tpO
  cases hm : floatBits .mul .f64 a b with
  | some p =>
    rw [hm] at h
    have e : r = p := h.2
    rw [e]
    rfl
  | none =>
    have hf : (finB a && finB b) = false := by
      cases fa : finB a
      · rfl
      · cases fb : finB b
        · rfl
        · rw [(fbits_map a b).2.2.1, read_fin ha fa, read_fin hb fb] at hm
          cases hm
    unfold fuO fuI
    rw [hf, hm]
    rfl
set_option maxHeartbeats 1000000 in
theorem twoprod_any (a b : Nat) (ha : a < 18446744073709551616) (hb : b < 18446744073709551616) (w : World) (hT : TabW w) :
    Calls Tryd.prog 12 #[.float .f64 a, .float .f64 b] w fun e w' => ∃ s r, e = .returned (.tuple #[.float .f64 s, .float .f64 r]) ∧ NR (floatBits .mul .f64 a b) s ∧ NR (tpO a b) r ∧ Below w.heap.size w w' := by
  have f4 : FourOp .mul := Or.inr (Or.inr (Or.inl rfl))
  have h1 := run_op4 (P := Tryd.prog) (op := .mul) f4 22 a b w
  have hcv := conv64
  have hu := run_negf
  have hN := op_NR (op := .mul) f4 (a := a) (b := b) w
  have hB := opW_below .mul a b (Below.refl w.heap.size w)
  have cf := fun W h => rfused_any a b (negW (opR .mul a b w)) 0 ha hb (negW_lt hN.1) W h
  simp only [tp_told ha hb hN] at cf
  have hT2 := tabW_below hT hB
  clear f4 hT
  generalize opR .mul a b w = p at *
  generalize opW .mul a b w = w0 at *
  go_enter Tryd.func12, Tryd.ntmps12
  go_wp2_with (go_at_call 37; refine (cf _ hT2).mono ?_; rintro e w1 ⟨r, rfl, n1, b1⟩)
  exact bodyPost_ret (v := .tuple #[.float .f64 p, .float .f64 r]) (by simp [results, Tryd.results12, go_sem]) rfl ⟨_, _, rfl, hN, n1, hB.trans (b1.mono hB.size)⟩
end Go.Proofs.YtlkmmfmnggejlaaDoor

namespace Go.Proofs.YtlkmmfmnggejlaaDoor
open Go.RowKit

/-- The greater number less what the sum makes of it is a float's. -/
theorem knuth_b {a b s p : Int} (ha : Rep a) (hb : Rep b) (hab : a.natAbs ≤ b.natAbs) (hs : Nst (a + b) s) (hp : Nst (s - a) p) : Rep (b - p) := by
  obtain ⟨l, l1, l2, l3, l4⟩ := ts_common hb ha hab
  have hsd : (2 : Int) ^ l ∣ s := nst_dvd (Int.dvd_add l2 l1) hs
  have hd : (2 : Int) ^ l ∣ s - a := Int.dvd_sub hsd l2
  have hs' : Nst (b + a) s := by rw [Int.add_comm]; exact hs
  have e1 := hs.2 b hb
  have e2 := hp.2 b hb
  by_cases c : (s - a).natAbs ≤ 9007199254740992 * 2 ^ l
  · have e := nst_self (rep_small hd c) hp
    have := ts_err hb ha hab hs'
    rw [e, show b - (s - a) = b + a - s by omega]
    exact this
  · have hpd := nst_dvd hd hp
    rcases l4 with g | g
    · have d1 := nst_dvd1 hp (Nat.le_of_lt (Nat.lt_of_not_le c))
      refine rep_small (i := l + 1) (Int.dvd_sub g d1) ?_
      rw [Nat.pow_succ]
      generalize (2 : Nat) ^ l = w at *
      omega
    · obtain ⟨k, hk⟩ := Int.dvd_add l2 l1
      have hk2 : (2 : Nat) ^ l * k.natAbs ≤ 2 ^ l * 18014398509481984 := by
        have h1 : (a + b).natAbs = 2 ^ l * k.natAbs := by rw [hk, Int.natAbs_mul, pw_abs]
        rw [← h1]
        generalize (2 : Nat) ^ l = w at *
        omega
      have hk3 : k.natAbs ≤ 18014398509481984 := Nat.le_of_mul_le_mul_left hk2 (Nat.two_pow_pos l)
      have hm : Rep (k / 2 * 2 ^ (l + 1)) := ⟨l + 1, k / 2, rfl, by omega⟩
      have e3 := hs.2 _ hm
      have e4 : (k / 2 * 2 ^ (l + 1) - (a + b)).natAbs ≤ 2 ^ l := by
        rw [hk, Int.pow_succ, show k / 2 * (2 ^ l * 2) - 2 ^ l * k = 2 ^ l * (k / 2 * 2 - k) by rw [Int.mul_sub, Int.mul_comm ((2 : Int) ^ l) (k / 2 * 2), Int.mul_assoc, Int.mul_comm 2 ((2 : Int) ^ l)], Int.natAbs_mul, pw_abs]
        have : (k / 2 * 2 - k).natAbs ≤ 1 := by omega
        exact Nat.le_trans (Nat.mul_le_mul_left _ this) (Nat.le_of_eq (Nat.mul_one _))
      refine rep_small (i := l) (Int.dvd_sub l1 hpd) ?_
      generalize (k / 2 * 2 ^ (l + 1) - (a + b)).natAbs = z at *
      have := Nat.two_pow_pos l
      generalize (2 : Nat) ^ l = w at *
      omega
/-- TwoSum's operations on finite floats that are not too great: what is lost, exactly. -/
theorem twosum_exact {a b : Nat} (ha : a < 18446744073709551616) (hb : b < 18446744073709551616) (fa : finB a = true) (fb : finB b = true) {W : Nat} (hW : IsTop W) (h1 : 4 * (vI a).natAbs ≤ W) (h2 : 4 * (vI b).natAbs ≤ W) :
    ∃ s r, floatBits .add .f64 a b = some s ∧ tsS a b = some s ∧ tsR a b = some r ∧ s < 18446744073709551616 ∧ finB s = true ∧ r < 18446744073709551616 ∧ finB r = true ∧ vI s + vI r = vI a + vI b := by
  have na : toO a = some a := by unfold toO; rw [rung_nan (by have := fin_rung fa; omega)]; rfl
  have nb : toO b = some b := by unfold toO; rw [rung_nan (by have := fin_rung fb; omega)]; rfl
  obtain ⟨s, es, Fs⟩ := add_fl ha hb fa fb hW (by omega)
  have n := Fs.2.2.1
  have n1 := n.2 _ (vI_rep a)
  have n2 := n.2 _ (vI_rep b)
  obtain ⟨p, ep, Fp⟩ := sub_fl Fs.1 ha Fs.2.1 fa hW (by omega)
  have m := Fp.2.2.1
  have m1 := m.2 _ (vI_rep b)
  obtain ⟨q, eq, Fq⟩ := sub_fl Fs.1 Fp.1 Fs.2.1 Fp.2.1 hW (by omega)
  have l := Fq.2.2.1
  have key : vI q = vI s - vI p ∧ Rep (vI a - vI q) ∧ Rep (vI b - vI p) ∧ Rep (vI a + vI b - vI s) := by
    by_cases c : (vI b).natAbs ≤ (vI a).natAbs
    · have d1 := ts_dif (vI_rep a) (vI_rep b) c n
      have d2 := ts_err (vI_rep a) (vI_rep b) c n
      have e1 := nst_self d1 m
      have e2 : vI q = vI s - vI p := nst_self (by rw [e1, show vI s - (vI s - vI a) = vI a by omega]; exact vI_rep a) l
      refine ⟨e2, ?_, ?_, d2⟩
      · rw [show vI a - vI q = 0 by omega]; exact rep_zero
      · rw [show vI b - vI p = vI a + vI b - vI s by omega]; exact d2
    · have hab : (vI a).natAbs ≤ (vI b).natAbs := by omega
      have n' : Nst (vI b + vI a) (vI s) := by rw [Int.add_comm]; exact n
      have d2 := ts_err (vI_rep b) (vI_rep a) hab n'
      rw [show vI b + vI a - vI s = vI a + vI b - vI s by omega] at d2
      have d3 := knuth_b (vI_rep a) (vI_rep b) hab n m
      by_cases d : (vI a).natAbs ≤ (vI s).natAbs
      · have m' : Nst (vI s + -vI a) (vI p) := m
        have d4 := rep_neg (ts_dif (vI_rep s) (rep_neg (vI_rep a)) (by omega) m')
        have d5 := rep_neg (ts_err (vI_rep s) (rep_neg (vI_rep a)) (by omega) m')
        have e2 : vI q = vI s - vI p := nst_self (by rw [show vI s - vI p = -(vI p - vI s) by omega]; exact d4) l
        exact ⟨e2, by rw [show vI a - vI q = -(vI s + -vI a - vI p) by omega]; exact d5, d3, d2⟩
      · have g1 : (vI a + vI b).natAbs < (vI a).natAbs := by
          rcases Nat.lt_or_ge (vI a + vI b).natAbs (vI a).natAbs with h | h
          · exact h
          · exfalso
            have rp : Rep (((vI a).natAbs : Int)) := by
              rcases Int.le_total 0 (vI a) with k | k
              · rw [show ((vI a).natAbs : Int) = vI a by omega]; exact vI_rep a
              · rw [show ((vI a).natAbs : Int) = -vI a by omega]; exact rep_neg (vI_rep a)
            rcases Int.le_total 0 (vI a + vI b) with k | k
            · have := nst_ge n rp (by omega)
              omega
            · have := nst_le n (rep_neg rp) (by omega)
              omega
        obtain ⟨u, u1, u2, u3, _⟩ := ts_common (vI_rep b) (vI_rep a) hab
        have e0 := nst_self (rep_small (Int.dvd_add u2 u1) (by omega)) n
        have e1 := nst_self (by rw [show vI s - vI a = vI b by omega]; exact vI_rep b) m
        have e2 : vI q = vI s - vI p := nst_self (by rw [show vI s - vI p = vI a by omega]; exact vI_rep a) l
        exact ⟨e2, by rw [show vI a - vI q = 0 by omega]; exact rep_zero, d3, d2⟩
  obtain ⟨k1, k2, k3, k4⟩ := key
  obtain ⟨x, ex, Fx⟩ := sub_fl ha Fq.1 fa Fq.2.1 hW (by omega)
  obtain ⟨y, ey, Fy⟩ := sub_fl hb Fp.1 fb Fp.2.1 hW (by omega)
  have vx := nst_self k2 Fx.2.2.1
  have vy := nst_self k3 Fy.2.2.1
  obtain ⟨r, er, Fr⟩ := add_fl Fx.1 Fy.1 Fx.2.1 Fy.2.1 hW (by omega)
  have hsum : vI x + vI y = vI a + vI b - vI s := by omega
  have vr := nst_self (by rw [hsum]; exact k4) Fr.2.2.1
  have t1 : tsS a b = some s := by unfold tsS; rw [na, nb]; exact es
  have t2 : tsP a b = some p := by unfold tsP; rw [t1, na]; exact ep
  refine ⟨s, r, es, t1, ?_, Fs.1, Fs.2.1, Fr.1, Fr.2.1, by omega⟩
  unfold tsR
  rw [t1, t2, na, nb]
  show opO .add (opO .sub (some a) (floatBits .sub .f64 s p)) (floatBits .sub .f64 b p) = some r
  rw [eq, ey]
  show opO .add (floatBits .sub .f64 a q) (some y) = some r
  rw [ex]
  exact er
/-- A product that is not too small: its units. -/
theorem lost_places {a b q : Nat} (ha : a < 18446744073709551616) (hb : b < 18446744073709551616) (sa : someB a = true) (sb : someB b = true) (hq : floatBits .mul .f64 a b = some q) (h : 243194379878006784 ≤ rung q) : twP ≤ up (rung a) + up (rung b) := by
  rcases Nat.lt_or_ge (up (rung a) + up (rung b)) twP with hl | hl
  · exfalso
    obtain ⟨fa, a0⟩ := some_rung sa
    obtain ⟨fb, b0⟩ := some_rung sb
    have a0' : rung a ≠ 0 := by simpa using a0
    have b0' : rung b ≠ 0 := by simpa using b0
    rw [(fbits_map a b).2.2.1, read_fin ha fa, read_fin hb fb] at hq
    simp only [Ieee.Datum.product, Option.map_some, Ieee.Format.write, Option.some.injEq] at hq
    have m1 : mg (rung a) ≠ 0 := by unfold mg; split <;> omega
    have m2 : mg (rung b) ≠ 0 := by unfold mg; split <;> omega
    obtain ⟨k, e, hk, c⟩ := near_anyD (sgn a ^^ sgn b) (-1074 + ((up (rung a) : Nat) : Int) + (-1074 + ((up (rung b) : Nat) : Int))) twP (m := mg (rung a) * mg (rung b)) (Nat.mul_ne_zero m1 m2) (by unfold twP; omega)
    rw [← hq, e, (word_rung _ (show k < 9223372036854775808 by omega)).1] at h
    have hc := (c 243194379878006783 (by omega)).1 (by omega)
    have hexp : (-1074 + ((up (rung a) : Nat) : Int) + (-1074 + ((up (rung b) : Nat) : Int)) + 1074 + ((twP : Nat) : Int)).toNat = up (rung a) + up (rung b) := by unfold twP; omega
    rw [hexp] at hc
    have hprod : mg (rung a) * mg (rung b) ≤ 9007199254740991 * 9007199254740991 := Nat.mul_le_mul (by unfold mg; split <;> omega) (by unfold mg; split <;> omega)
    obtain ⟨T, hT⟩ : ∃ T, twP = T + 1 := ⟨1073, rfl⟩
    have hA : mg (rung a) * mg (rung b) * 2 ^ (up (rung a) + up (rung b)) ≤ 9007199254740991 * 9007199254740991 * 2 ^ T := Nat.mul_le_mul hprod (Nat.pow_le_pow_right (by omega) (by omega))
    have hv : val 243194379878006783 + val (243194379878006783 + 1) = 81129638414606677192189377773568 := by decide
    unfold aboveD at hc
    rw [hv, hT, Nat.pow_succ] at hc
    generalize mg (rung a) * mg (rung b) * 2 ^ (up (rung a) + up (rung b)) = A at hc hA
    have hw : 0 < (2 : Nat) ^ T := Nat.two_pow_pos _
    generalize (2 : Nat) ^ T = W at hc hA hw
    rcases hc with g | ⟨g, _⟩ <;> omega
  · exact hl
theorem vI_nil1 {t : Nat} (h : rung t = 0) : vI t = 0 := by
  unfold vI
  rw [h, val_zero]; split <;> rfl
theorem nst_under {R p : Int} (h : Nst R p) (h0 : p ≠ 0) : (R - p).natAbs ≤ p.natAbs := by
  have e1 := h.2 _ (rep_dbl h.1)
  have e2 := h.2 _ rep_zero
  omega
/-- TwoProd's answers where nothing is lost below the least float. -/
theorem twoprod_exact {a b p : Nat} (ha : a < 18446744073709551616) (hb : b < 18446744073709551616) (fa : finB a = true) (fb : finB b = true) (hq : floatBits .mul .f64 a b = some p) (hp : p < 18446744073709551616) (fp : finB p = true) (h : rung a = 0 ∨ rung b = 0 ∨ 243194379878006784 ≤ rung p) :
    ∃ r, tpO a b = some r ∧ r < 18446744073709551616 ∧ finB r = true ∧ vI a * vI b = (vI p + vI r) * 2 ^ twP := by
  have et : tpO a b = some (fuW a b (negW p) 0) := by
    unfold tpO
    rw [hq]
    show fuO a b (negW p) 0 = _
    unfold fuO
    have fn : finB (negW p) = true := by unfold finB at fp ⊢; rw [(neg_rung hp).1]; exact fp
    rw [fa, fb, fn]; rfl
  have ex : exX a b (negW p) = vI a * vI b - vI p * 2 ^ twP := by
    unfold exX
    rw [vI_ng hp]
    unfold twP
    rw [Int.neg_mul]; rfl
  have nought : vI a * vI b = vI p * 2 ^ twP → ∃ r, tpO a b = some r ∧ r < 18446744073709551616 ∧ finB r = true ∧ vI a * vI b = (vI p + vI r) * 2 ^ twP := fun e => by
    have e0 : exX a b (negW p) = 0 := by rw [ex, e, Int.sub_self]
    have hz : rung (noughtR (rung a == 0 || rung b == 0) (sgn a != sgn b) (negW p) 0) = 0 ∧ noughtR (rung a == 0 || rung b == 0) (sgn a != sgn b) (negW p) 0 < 18446744073709551616 := by
      unfold noughtR
      split
      · next g =>
        simp only [Bool.and_eq_true, beq_iff_eq] at g
        exact ⟨g.2.1, negW_lt hp⟩
      · exact ⟨by decide, by decide⟩
    refine ⟨_, et, ?_⟩
    unfold fuW
    rw [if_pos e0]
    generalize noughtR (rung a == 0 || rung b == 0) (sgn a != sgn b) (negW p) 0 = z at *
    refine ⟨hz.2, by unfold finB; rw [hz.1]; rfl, ?_⟩
    rw [vI_nil1 hz.1, Int.add_zero]
    exact e
  by_cases c : rung a = 0 ∨ rung b = 0
  · have e0 : vI a * vI b = 0 := by
      rcases c with g | g
      · rw [vI_nil1 g, Int.zero_mul]
      · rw [vI_nil1 g, Int.mul_zero]
    have z := (mul_nought ha hb fa fb c hq).1
    exact nought (by rw [e0, vI_nil1 z, Int.zero_mul])
  · have sa : someB a = true := by unfold someB; rw [fa]; simp only [Bool.true_and]; simpa using fun g => c (Or.inl g)
    have sb : someB b = true := by unfold someB; rw [fb]; simp only [Bool.true_and]; simpa using fun g => c (Or.inr g)
    have hb2 : 243194379878006784 ≤ rung p := by omega
    have hpl := lost_places ha hb sa sb hq hb2
    obtain ⟨A, B, hA, hB, e, eAB, hs⟩ := prod_units hpl
    obtain ⟨E, hE⟩ : ∃ E : Nat, up (rung a) + up (rung b) - twP = E := ⟨_, rfl⟩
    rw [hE] at e
    have hab : (A * B * 2 ^ E).natAbs = mg (rung a) * mg (rung b) * 2 ^ E := by rw [Int.natAbs_mul, pw_abs, eAB]
    have m1 : mg (rung a) ≠ 0 := by unfold mg; split <;> omega
    have m2 : mg (rung b) ≠ 0 := by unfold mg; split <;> omega
    have hN : Nst (A * B * 2 ^ E) (vI p) := by
      have hq' := hq
      rw [(fbits_map a b).2.2.1, read_fin ha fa, read_fin hb fb] at hq'
      simp only [Ieee.Datum.product, Option.map_some, Ieee.Format.write, Option.some.injEq] at hq'
      have ep : -1074 + ((up (rung a) : Nat) : Int) + (-1074 + ((up (rung b) : Nat) : Int)) = (E : Int) - 1074 := by unfold twP at hpl hE; omega
      rw [ep] at hq'
      obtain ⟨k, e1, hk, g⟩ := near_anyD (sgn a ^^ sgn b) ((E : Int) - 1074) 0 (m := mg (rung a) * mg (rung b)) (Nat.mul_ne_zero m1 m2) (by omega)
      have hr := word_rung (sgn a ^^ sgn b) (show k < 9223372036854775808 by omega)
      rw [e1] at hq'
      have hk2 : rung p = k := by rw [← hq', hr.1]
      have hs2 : sgn p = (sgn a ^^ sgn b) := by rw [← hq', hr.2]
      have h0 : A * B ≠ 0 := fun z => Nat.mul_ne_zero m1 m2 (by rw [← eAB, z]; rfl)
      refine nst_mid (k := k) ?_ (by have := fin_rung fp; omega) (fun r hr2 => ?_)
      · unfold vI
        rw [hk2, hs2, hs h0]
        have := (neg_pw (T := A * B) (u := E)).1
        by_cases g2 : A * B < 0
        · rw [if_pos (this.2 g2)]; simp [g2]
        · rw [if_neg (fun z => g2 (this.1 z))]; simp [g2]
      · have := g r hr2
        rw [show ((E : Int) - 1074 + 1074 + ((0 : Nat) : Int)).toNat = E by omega, ← hab] at this
        exact this
    have hR := prod_err hA hB hN
    have hp0 : vI p ≠ 0 := (vI_sign (by omega)).1
    have hu := nst_under hN hp0
    generalize A * B * 2 ^ E = R at *
    by_cases v0 : R - vI p = 0
    · exact nought (by rw [e, show R = vI p by omega])
    · obtain ⟨k, hk⟩ := rep_val hR
      have hki : k < 9218868437227405312 := by
        have h1 : (vI p).natAbs = val (rung p) := by unfold vI; split <;> omega
        rcases Nat.lt_or_ge k 9218868437227405312 with g | g
        · exact g
        · exfalso
          have h2 : val (rung p) < val k := Nat.lt_of_lt_of_le (val_step (rung p)) (val_le_D (by have := fin_rung fp; omega))
          omega
      obtain ⟨s, hs3⟩ : ∃ s : Bool, s = decide (R - vI p < 0) := ⟨_, rfl⟩
      have hr := word_rung s (show k < 9223372036854775808 by omega)
      have hv : vI (Ieee.double.word s k) = R - vI p := by
        have e9 : vI (Ieee.double.word s k) = if s then -(val k : Int) else (val k : Int) := by unfold vI; rw [hr.1, hr.2]
        rw [e9, hs3]
        by_cases g : R - vI p < 0
        · rw [decide_eq_true g, if_pos rfl]; omega
        · rw [decide_eq_false g]; simp only [Bool.false_eq_true, if_false]; omega
      have hk0 : k ≠ 0 := fun z => by rw [z, val_zero] at hk; omega
      have hf : finB (Ieee.double.word s k) = true := by unfold finB; rw [hr.1]; exact decide_eq_true hki
      have hx : exX a b (negW p) = vI (Ieee.double.word s k) * 2 ^ twP := by rw [ex, e, hv, Int.sub_mul]
      refine ⟨_, et, ?_⟩
      unfold fuW
      have hx0 : exX a b (negW p) ≠ 0 := by
        rw [hx, hv]
        exact fun z => v0 ((neg_pw (u := twP)).2.1 z)
      rw [if_neg hx0, hx, fu_self 0 (word_lt64 s (by omega)) hf (by rw [hr.1]; exact hk0)]
      refine ⟨word_lt64 s (by omega), hf, ?_⟩
      rw [hv, e, show vI p + (R - vI p) = R by omega]
end Go.Proofs.YtlkmmfmnggejlaaDoor
