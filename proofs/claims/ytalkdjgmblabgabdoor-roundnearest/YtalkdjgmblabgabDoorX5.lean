/- What ends of layer 3's laws answers: a float as a dyad, 2^1024 for an infinity; and a dyad twice. -/
import Derived.Test.YtalkdjgmblabgabDoorX2
import Derived.Test.YtalkdjgmblabgabDoorX1
import Derived.Test.YtalkdjgmblabgabDoorX4
import Derived.Test.YtalkdjgmblabgabDoorX3
namespace Go.Proofs.YtalkdjgmblabgabDoor
open Go.RowKit

/-- The exact answer, in units of 2^-2148. -/
def exO (op a b c : Nat) : Int := match op with
  | 0 => (vI a + vI b) * 2 ^ twP
  | 1 => (vI a - vI b) * 2 ^ twP
  | 2 => vI a * vI b
  | _ => exX a b c
/-- On which side of the middle of two floats the exact answer lies. -/
def midS (op a b c lo hi : Nat) : Int := sgI (2 * exO op a b c - (vI lo + vI hi) * 2 ^ twP)
/-- Nearest tells the nearer one; of both as near the one with an even place. -/
def Mid (g : Int) (lo hi ne : Nat) : Prop := (g = 0 → (place ne = place lo ↔ place lo % 2 = 0)) ∧ (g < 0 → place ne = place lo) ∧ (0 < g → place ne = place hi)
theorem fu_ways {X : Int} (h0 : X ≠ 0) : (∃ v, ∀ m, fuV X m = v) ∨ ∃ d n, d < 9218868437227405312 ∧ (n = d ∨ n = d + 1) ∧ fuV X 1 = Ieee.double.word (decide (X < 0)) (if decide (X < 0) then d + 1 else d) ∧ fuV X 2 = Ieee.double.word (decide (X < 0)) (if decide (X < 0) then d else d + 1) ∧ fuV X 0 = Ieee.double.word (decide (X < 0)) n ∧ (n = d + 1 ↔ aboveD kV (X.natAbs * 2 ^ puH) d) := by
  have hN := fuK_near h0
  have hA := fu_units h0
  have hB := near_brk hN hA
  have hk := hN.1
  have hf : ∀ m, fuV X m = Ieee.double.word (decide (X < 0)) (rgS (fuK X) (sdN (X.natAbs * 2 ^ puH) (fuK X)) (if decide (X < 0) then tmd m else m)) := fun m => by
    rw [← step_word _ hB m]
    unfold fuV
    congr 1
    unfold sdK sdN
    by_cases c : X < 0 <;> simp only [c, decide_true, decide_false, if_true, Bool.false_eq_true, if_false] <;> split <;> rfl
  generalize fuK X = k at *
  generalize sdN (X.natAbs * 2 ^ puH) k = r at *
  obtain ⟨_, b0, b1, b2⟩ := hB
  rcases rg_ways k r with ⟨g, gw⟩ | ⟨g, g1, g2, g3, g0⟩ | ⟨g, g1, g2, g3, g0⟩
  · left
    exact ⟨_, fun m => by rw [hf, gw]⟩
  · right
    obtain ⟨hi, _, _⟩ := b1 g
    refine ⟨k, k, hi, Or.inl rfl, ?_, ?_, ?_, ?_⟩
    · rw [hf]; cases decide (X < 0)
      · simp only [Bool.false_eq_true, if_false]; rw [g1]
      · simp only [if_true]; rw [show tmd 1 = 2 from rfl, g2]
    · rw [hf]; cases decide (X < 0)
      · simp only [Bool.false_eq_true, if_false]; rw [g2]
      · simp only [if_true]; rw [show tmd 2 = 1 from rfl, g1]
    · rw [hf]; cases decide (X < 0)
      · simp only [Bool.false_eq_true, if_false]; rw [g0]
      · simp only [if_true]; rw [show tmd 0 = 0 from rfl, g0]
    · rw [← hN.2 k hi]; omega
  · right
    obtain ⟨k0, _, _⟩ := b2 g
    have ek : k - 1 + 1 = k := by omega
    refine ⟨k - 1, k, by omega, Or.inr ek.symm, ?_, ?_, ?_, ?_⟩
    · rw [hf, ek]; cases decide (X < 0)
      · simp only [Bool.false_eq_true, if_false]; rw [g1]
      · simp only [if_true]; rw [show tmd 1 = 2 from rfl, g2]
    · rw [hf, ek]; cases decide (X < 0)
      · simp only [Bool.false_eq_true, if_false]; rw [g2]
      · simp only [if_true]; rw [show tmd 2 = 1 from rfl, g1]
    · rw [hf]; cases decide (X < 0)
      · simp only [Bool.false_eq_true, if_false]; rw [g0]
      · simp only [if_true]; rw [show tmd 0 = 0 from rfl, g0]
    · rw [← hN.2 (k - 1) (by omega)]; omega
theorem mid_of {X : Int} (_h0 : X ≠ 0) {d n : Nat} (hd : d < 9218868437227405312) (hn : n = d ∨ n = d + 1) (ha : n = d + 1 ↔ aboveD kV (X.natAbs * 2 ^ puH) d) :
    Mid (sgI (2 * X - (vI (Ieee.double.word (decide (X < 0)) (if decide (X < 0) then d + 1 else d)) + vI (Ieee.double.word (decide (X < 0)) (if decide (X < 0) then d else d + 1))) * 2 ^ twP)) (Ieee.double.word (decide (X < 0)) (if decide (X < 0) then d + 1 else d)) (Ieee.double.word (decide (X < 0)) (if decide (X < 0) then d else d + 1)) (Ieee.double.word (decide (X < 0)) n) := by
  have b1 : d ≤ 9218868437227405312 := by omega
  have b2 : d + 1 ≤ 9218868437227405312 := by omega
  have bn : n ≤ 9218868437227405312 := by omega
  -- the middle in plain numbers
  have hm : aboveD kV (X.natAbs * 2 ^ puH) d ↔ ((val d + val (d + 1)) * 2 ^ twP < 2 * X.natAbs ∨ ((val d + val (d + 1)) * 2 ^ twP = 2 * X.natAbs ∧ d % 2 = 1)) := by
    unfold aboveD
    have hP := Nat.two_pow_pos puH
    rw [show kV = twP + puH from rfl, Nat.pow_add, ← Nat.mul_assoc, ← Nat.mul_assoc]
    generalize (val d + val (d + 1)) * 2 ^ twP = S
    generalize 2 ^ puH = Q at *
    constructor
    · rintro (h | ⟨h, g⟩)
      · exact Or.inl (Nat.lt_of_mul_lt_mul_right h)
      · exact Or.inr ⟨Nat.eq_of_mul_eq_mul_right hP h, g⟩
    · rintro (h | ⟨h, g⟩)
      · exact Or.inl (Nat.mul_lt_mul_of_pos_right h hP)
      · exact Or.inr ⟨by rw [h], g⟩
  rw [hm] at ha
  have cS : (((val d + val (d + 1)) * 2 ^ twP : Nat) : Int) = ((val d : Int) + (val (d + 1) : Int)) * 2 ^ twP := by rw [Int.natCast_mul, pw_cast]; push_cast; rfl
  generalize (val d + val (d + 1)) * 2 ^ twP = S at *
  by_cases hx : X < 0
  · rw [decide_eq_true hx]
    simp only [if_true]
    rw [vI_word true b1, vI_word true b2]
    simp only [if_true]
    rw [show 2 * X - (-(val (d + 1) : Int) + -(val d : Int)) * 2 ^ twP = -((2 * X.natAbs : Int) - S) by
      rw [cS, show -(val (d + 1) : Int) + -(val d : Int) = -((val d : Int) + (val (d + 1) : Int)) by omega, Int.neg_mul]; omega]
    unfold Mid
    rw [place_word true b1, place_word true b2, place_word true bn]
    simp only [tnS, if_true]
    rw [← sgI_opp]
    have z := sgI_zero (x := (2 * X.natAbs : Int) - S)
    have l := (sgI_lt (x := (2 * X.natAbs : Int) - S))
    generalize sgI ((2 * X.natAbs : Int) - S) = G at *
    refine ⟨fun h => ?_, fun h => ?_, fun h => ?_⟩
    · have := z.1 (by omega); omega
    · have := l.2.1 (by omega); omega
    · have := l.1.1 (by omega); omega
  · rw [decide_eq_false hx]
    simp only [Bool.false_eq_true, if_false]
    rw [vI_word false b1, vI_word false b2]
    simp only [Bool.false_eq_true, if_false]
    rw [show 2 * X - ((val d : Int) + (val (d + 1) : Int)) * 2 ^ twP = (2 * X.natAbs : Int) - S by rw [cS]; omega]
    unfold Mid
    rw [place_word false b1, place_word false b2, place_word false bn]
    simp only [tnS, Bool.false_eq_true, if_false]
    have z := sgI_zero (x := (2 * X.natAbs : Int) - S)
    have l := (sgI_lt (x := (2 * X.natAbs : Int) - S))
    generalize sgI ((2 * X.natAbs : Int) - S) = G at *
    refine ⟨fun h => ?_, fun h => ?_, fun h => ?_⟩
    · have := z.1 (by omega); omega
    · have := l.1.1 (by omega); omega
    · have := l.2.1 (by omega); omega
theorem rg_bd {A : Nat} {G : Nat → Nat} {k : Nat} {r : Int} (h : Brk A G k r) (m : Int) : rgS k r m ≤ 9218868437227405312 := by
  obtain ⟨hk, _, b1, _⟩ := h
  unfold rgS
  by_cases c1 : (m = 1 ∨ m = 3) ∧ r < 0
  · rw [if_pos c1]; omega
  · rw [if_neg c1]
    by_cases c2 : m = 2 ∧ 0 < r
    · rw [if_pos c2]; have := (b1 c2.2).1; omega
    · rw [if_neg c2]; exact hk
/-- What the four tell. -/
theorem four_near {op a b c : Nat} (hop : op = 0 ∨ op = 1 ∨ op = 2 ∨ op = 5) (h : Ask op a b c) : ∃ lo hi ne, dO op a b c 1 = some lo ∧ dO op a b c 2 = some hi ∧ dO op a b c 0 = some ne ∧ Ok op lo ∧ Ok op hi ∧ Ok op ne ∧ ((place hi = place lo ∧ place ne = place lo) ∨ (place hi = place lo + 1 ∧ exO op a b c ≠ 0 ∧ (place ne = place lo ∨ place ne = place hi) ∧ Mid (midS op a b c lo hi) lo hi ne)) := by
  have h4 : op ≠ 4 := by omega
  have h4s : ∀ s : Bool, op = 4 → s = false := fun s e => absurd e h4
  have key : ∀ X : Int, X ≠ 0 → exO op a b c = X → (∀ m, dO op a b c m = some (fuV X m)) → ∃ lo hi ne, dO op a b c 1 = some lo ∧ dO op a b c 2 = some hi ∧ dO op a b c 0 = some ne ∧ Ok op lo ∧ Ok op hi ∧ Ok op ne ∧ ((place hi = place lo ∧ place ne = place lo) ∨ (place hi = place lo + 1 ∧ exO op a b c ≠ 0 ∧ (place ne = place lo ∨ place ne = place hi) ∧ Mid (midS op a b c lo hi) lo hi ne)) := by
    intro X hX hE hd
    rcases fu_ways hX with ⟨v, hv⟩ | ⟨d, n, hd1, hn, e1, e2, e0, ha⟩
    · have ok : Ok op v := by
        obtain ⟨k, r, hB, hf⟩ := fu_told hX
        have := hf 1
        rw [hv] at this
        rw [this]
        exact ok_word _ (rg_bd hB _) (h4s _)
      refine ⟨v, v, v, by rw [hd, hv], by rw [hd, hv], by rw [hd, hv], ok, ok, ok, Or.inl ⟨rfl, rfl⟩⟩
    · have b1 : (if decide (X < 0) = true then d + 1 else d) ≤ 9218868437227405312 := by split <;> omega
      have b2 : (if decide (X < 0) = true then d else d + 1) ≤ 9218868437227405312 := by split <;> omega
      have bn : n ≤ 9218868437227405312 := by omega
      have hM := mid_of hX hd1 hn ha
      refine ⟨_, _, _, by rw [hd, e1], by rw [hd, e2], by rw [hd, e0], ok_word _ b1 (h4s _), ok_word _ b2 (h4s _), ok_word _ bn (h4s _), Or.inr ⟨?_, by rw [hE]; exact hX, ?_, ?_⟩⟩
      · rw [place_word _ b1, place_word _ b2]
        cases decide (X < 0) <;> simp only [tnS, if_true, Bool.false_eq_true, if_false] <;> omega
      · rw [place_word _ b1, place_word _ b2, place_word _ bn]
        cases decide (X < 0) <;> simp only [tnS, if_true, Bool.false_eq_true, if_false] <;> omega
      · unfold midS
        rw [hE]
        exact hM
  have nul : Nul op a b c → ∃ lo hi ne, dO op a b c 1 = some lo ∧ dO op a b c 2 = some hi ∧ dO op a b c 0 = some ne ∧ Ok op lo ∧ Ok op hi ∧ Ok op ne ∧ ((place hi = place lo ∧ place ne = place lo) ∨ (place hi = place lo + 1 ∧ exO op a b c ≠ 0 ∧ (place ne = place lo ∨ place ne = place hi) ∧ Mid (midS op a b c lo hi) lo hi ne)) := by
    rintro ⟨hz, _⟩
    obtain ⟨lo, e1, l1, z1⟩ := hz 1
    obtain ⟨hi, e2, l2, z2⟩ := hz 2
    obtain ⟨ne, e0, l0, z0⟩ := hz 0
    have ok : ∀ x, x < 18446744073709551616 → rung x = 0 → Ok op x := fun x h1 h2 => ⟨h1, by omega, fun _ => Or.inr h2⟩
    have pl : ∀ x, rung x = 0 → place x = 0 := fun x h => by unfold place; rw [h]; split <;> rfl
    exact ⟨lo, hi, ne, e1, e2, e0, ok _ l1 z1, ok _ l2 z2, ok _ l0 z0, Or.inl ⟨by rw [pl _ z1, pl _ z2], by rw [pl _ z1, pl _ z0]⟩⟩
  have h' := h
  obtain ⟨ha, hb, hc, fa, fb, fc, nz, ps⟩ := h
  rcases hop with rfl | rfl | rfl | rfl
  · rcases sum_case ha hb fa fb with ⟨h0, hv⟩ | ⟨h0, hv⟩
    · exact key _ (fun h => h0 (neg_pw.2.1 h)) rfl hv
    · exact nul ⟨hv, fun t ht => by show sgI (vI a + vI b - vI t) = 0; rw [h0, vI_nought ht]; rfl⟩
  · have hn := vI_ng hb
    rcases sum_case ha (negW_lt hb) fa ((neg_fin hb).trans fb) with ⟨h0, hv⟩ | ⟨h0, hv⟩
    · rw [hn, ← Int.sub_eq_add_neg] at h0 hv
      exact key _ (fun h => h0 (neg_pw.2.1 h)) rfl hv
    · rw [hn, ← Int.sub_eq_add_neg] at h0
      exact nul ⟨hv, fun t ht => by show sgI (vI a - vI b - vI t) = 0; rw [h0, vI_nought ht]; rfl⟩
  · cases hs : (someB a && someB b)
    · rcases six h' with ⟨s, A, G, f, _, _, _, _, hd, _⟩ | hN
      · -- a nought among the factors: what is told does not hang on the way
        have e : ∀ m, dO 2 a b c m = floatBits .mul .f64 a b := fun m => by show mulO a b m = _; unfold mulO; rw [hs]; rfl
        have hz : rung a = 0 ∨ rung b = 0 := by
          cases sa : someB a
          · exact Or.inl (nil_of fa sa)
          · rw [sa] at hs
            exact Or.inr (nil_of fb (by simpa using hs))
        have hp := (hd 1).symm.trans (e 1)
        have ok : Ok 2 (f 1) := ⟨(op_word (op := .mul) (Or.inr (Or.inr (Or.inl rfl))) hp.symm).1, by rw [(mul_nought ha hb fa fb hz hp.symm).1]; omega, fun h => absurd h (by decide)⟩
        refine ⟨f 1, f 1, f 1, hd 1, ?_, ?_, ok, ok, ok, Or.inl ⟨rfl, rfl⟩⟩
        · rw [e 2, ← e 1]; exact hd 1
        · rw [e 0, ← e 1]; exact hd 1
      · exact nul hN
    · have sa : someB a = true := by revert hs; cases someB a <;> simp
      have sb : someB b = true := by revert hs; cases someB b <;> simp
      have a0 : rung a ≠ 0 := by simpa using (some_rung sa).2
      have b0 : rung b ≠ 0 := by simpa using (some_rung sb).2
      refine key _ (mul_sign (vI_sign a0).1 (vI_sign b0).1).1 rfl fun m => ?_
      show mulO a b m = _
      unfold mulO
      rw [hs, if_pos rfl, mul_fu m ha hb sa sb]
  · have e : ∀ m, fuO a b c m = some (fuW a b c m) := fun m => by unfold fuO; rw [fa, fb, fc]; rfl
    by_cases h0 : exX a b c = 0
    · rcases six h' with ⟨s, A, G, f, ⟨k, r, hB, hf⟩, hA, hG0, _, hd, hS⟩ | hN
      · exfalso
        have h1 := hS 0 (by decide) (fun h => absurd h (by decide))
        have h2 : hSg 5 a b c 0 = 0 := by show sgI (exX a b c - vI 0 * 2 ^ twP) = 0; rw [h0, vI_nought rfl, Int.zero_mul]; rfl
        rw [h2] at h1
        unfold cmS at h1
        rw [if_pos (Or.inl (show rung 0 = 0 by decide))] at h1
        cases s <;> cases h1
      · exact nul hN
    · refine key _ h0 rfl fun m => ?_
      show fuO a b c m = _
      rw [e]
      unfold fuW
      rw [if_neg h0]
end Go.Proofs.YtalkdjgmblabgabDoor

namespace Go.Proofs.YtalkdjgmblabgabDoor
open Go.RowKit

theorem fd_scale {D : Dy} {X : Int} (h : Fd D X) (hX : X ≠ 0) (hb : bl (2 * X).natAbs ≤ 16384) : scaleD D 1 = (dz (2 * X), 0) := by
  have hp : (2 : Int) ^ puH ≠ 0 := by have := pw_pos puH; omega
  have h0 : D.mag.length ≠ 0 := fun e => by
    have e1 : vl D.mag = 0 := by
      have : D.mag = [] := List.length_eq_zero_iff.1 e
      rw [this]; rfl
    have e2 : sv D = 0 := by have := sv_abs D; omega
    have e3 : qd D = 0 := by unfold qd; rw [e2, Int.zero_mul]
    rw [h.2.2] at e3
    rcases Int.mul_eq_zero.1 e3 with g | g
    · exact hX g
    · exact hp g
  rw [← scale_norm h.2.1 h.1 h0 1]
  unfold normD
  have e1 : sv ⟨D.neg, lo (vl D.mag), D.exp + 1⟩ = sv D := by unfold sv; rw [vl_lo]
  rw [e1]
  have hx := right_exp h.1
  have e2 : nrm (2 * X) (-2148) = nrm (2 * X * 2 ^ puH) (-65536) := by
    rw [shift_nrm, show (-65536 : Int) + (puH : Nat) = -2148 from rfl]
  have e3 : 2 * X * 2 ^ puH = sv D * 2 ^ ((D.exp + 65536).toNat + 1) := by
    rw [Int.mul_assoc, ← h.2.2]
    unfold qd
    rw [Int.pow_succ]
    generalize (2 : Int) ^ (D.exp + 65536).toNat = Q
    rw [Int.mul_comm 2, Int.mul_assoc]
  show nrm (sv D) (D.exp + 1) = _
  rw [← dz_told hb, e2, e3, shift_nrm]
  congr 1
  omega
theorem val_inf : ∃ U, U = 2098 ∧ val 9218868437227405312 = 2 ^ U := by
  obtain ⟨K, hK⟩ : ∃ K : Nat, 9218868437227405312 / 4503599627370496 - 1 = K := ⟨_, rfl⟩
  refine ⟨52 + K, by rw [← hK], ?_⟩
  unfold val
  rw [if_neg (by omega), hK, show 4503599627370496 + 9218868437227405312 % 4503599627370496 = 2 ^ 52 by decide, ← Nat.pow_add]
theorem fd_inf (s : Bool) : Fd ⟨s, [1], 1024⟩ (vI (Ieee.double.word s 9218868437227405312) * 2 ^ twP) := by
  obtain ⟨U, hU, hv⟩ := val_inf
  refine ⟨by cases s <;> decide, fun x hx => by simp at hx; omega, ?_⟩
  rw [vI_word s (by omega), hv]
  unfold qd sv
  simp only [show vl [1] = 1 by decide]
  obtain ⟨E, hE⟩ : ∃ E : Nat, ((1024 : Int) + 65536).toNat = E := ⟨_, rfl⟩
  have hE2 : E = U + twP + puH := by rw [← hE, hU]; rfl
  rw [hE, hE2, Int.pow_add, Int.pow_add]
  have hc : ((2 ^ U : Nat) : Int) = (2 : Int) ^ U := pw_cast U
  rw [hc]
  cases s
  · simp
  · simp only [if_true]
    rw [Int.neg_mul, Int.neg_mul, Int.neg_mul]
    simp
set_option maxRecDepth 100000 in
set_option maxHeartbeats 1000000 in
theorem ends_any (x : Nat) (hx : x < 18446744073709551616) (hr : rung x ≤ 9218868437227405312) : ∃ D, Fd D (vI x * 2 ^ twP) ∧ ∀ w, TabW w → Calls Tryd.prog 11 #[.float .f64 x] w fun e w' => ∃ ao cap, e = .returned (.tuple #[.agg #[.bool D.neg, .slice ao D.mag.length cap, .int .i64 D.exp], .int .i64 0]) ∧ LRow w' ao D.mag ∧ Below w.heap.size w w' := by
  cases fx : finB x
  · have hi : rung x = 9218868437227405312 := by unfold finB at fx; simp at fx; omega
    have ew : x = Ieee.double.word (sgn x) 9218868437227405312 := by rw [← hi]; exact word_of hx
    have hF := fd_inf (sgn x)
    rw [← ew] at hF
    have cf := fin_no x hx fx
    have ol := (pos_or hx hi).1
    clear ew hi
    refine ⟨_, hF, fun w hT => ?_⟩
    have ci := fun W h => Int_any 1 (by omega) (by omega) W h
    rw [show intD 1 = ⟨false, [1], 0⟩ by kernel_rfl] at ci
    have cs := fun ao cap W h => scale_any ⟨false, [1], 0⟩ 1024 ao cap W h (fun x hx => by simp at hx; omega)
    rw [show scaleD ⟨false, [1], 0⟩ 1024 = (⟨false, [1], 1024⟩, 0) by kernel_rfl] at cs
    have cn := fun ao cap W h => neg_any ⟨false, [1], 1024⟩ ao cap W h (fun x hx => by simp at hx; omega)
    rw [show negD ⟨false, [1], 1024⟩ = (⟨true, [1], 1024⟩, 0) by kernel_rfl] at cn
    have HE0 : Hd (w.alloc (.cells #[.bool false, .slice none 0 0, .int .i64 0] 32)) w.heap.size dy0 none 0 := Hd.new (d := dy0) (Or.inl rfl)
    have ZE0 := fz_new w (.bool false) (.slice none 0 0) (.int .i64 0)
    have hTd := tabW_below (tabW_alloc hT (.cells #[.bool false, .slice none 0 0, .int .i64 0] 32)) (Below.refl _ _).drew
    clear hF
    cases hs : sgn x
    · rw [hs] at ol
      go_enter Tryd.func11, Tryd.ntmps11
      go_wp2_with (first
        | (go_at_call 28; refine (cf _).mono ?_; rintro e w' ⟨rfl, h'⟩; subst w')
        | (go_at_call 32; refine (ci _ hTd).mono ?_; rintro e w1 ⟨a1, c1, rfl, r1, f1, b1⟩; replace b1 := undrew b1)
        | (go_at_call 15; refine (cs _ _ _ r1).mono ?_; rintro e w2 ⟨a2, c2, rfl, r2, f2, b2⟩; have HE6 := HE0.six ZE0 (bth3 (bth3 b1 b2) (bal w2 (.cells #[.bool false, .slice a2 1 c2, .int .i64 1024] 32))); have k0 := HE6.1.c0; have k1 := HE6.1.c1; have k2 := HE6.1.c2; obtain ⟨g0, g1, g2⟩ := HE6.2))
      have ls := b1.size
      have P3 := put3r (c := c2) (E := ⟨false, [1], 1024⟩) HE6.1 HE6.2 (r2.alloc _) f2 (by simp at ls; omega)
      have B1 := bth3 (bth3 (bth3 (bal w _) b1) b2) (bal w2 (.cells #[.bool false, .slice a2 1 c2, .int .i64 1024] 32))
      exact bodyPost_ret (v := .tuple #[.agg #[.bool false, .slice a2 1 c2, .int .i64 1024], .int .i64 0]) (by simp [results, Tryd.results11, go_sem, k0, k1, k2]) rfl ⟨a2, c2, rfl, P3.1.row, ((B1.setCell (Nat.le_refl _) _).setCell (Nat.le_refl _) _).setCell (Nat.le_refl _) _⟩
    · rw [hs] at ol
      go_enter Tryd.func11, Tryd.ntmps11
      go_wp2_with (first
        | (go_at_call 28; refine (cf _).mono ?_; rintro e w' ⟨rfl, h'⟩; subst w')
        | (go_at_call 32; refine (ci _ hTd).mono ?_; rintro e w1 ⟨a1, c1, rfl, r1, f1, b1⟩; replace b1 := undrew b1)
        | (go_at_call 15; refine (cs _ _ _ r1).mono ?_; rintro e w2 ⟨a2, c2, rfl, r2, f2, b2⟩)
        | (go_at_call 33; refine (cn _ _ _ (r2.alloc _)).mono ?_; rintro e w3 ⟨a3, c3, rfl, r3, f3, b3⟩; have HE6 := HE0.six ZE0 (bth3 (bth3 (bth3 b1 b2) (bal w2 (.cells #[.bool false, .slice a2 1 c2, .int .i64 1024] 32))) b3); have k0 := HE6.1.c0; have k1 := HE6.1.c1; have k2 := HE6.1.c2; obtain ⟨g0, g1, g2⟩ := HE6.2))
      have ls := b1.size
      have ls2 := b2.size
      have P3 := put3r (c := c3) (E := ⟨true, [1], 1024⟩) HE6.1 HE6.2 r3 f3 (by simp at ls ⊢; omega)
      have B1 := bth3 (bth3 (bth3 (bth3 (bal w _) b1) b2) (bal w2 (.cells #[.bool false, .slice a2 1 c2, .int .i64 1024] 32))) b3
      exact bodyPost_ret (v := .tuple #[.agg #[.bool true, .slice a3 1 c3, .int .i64 1024], .int .i64 0]) (by simp [results, Tryd.results11, go_sem, k0, k1, k2]) rfl ⟨a3, c3, rfl, P3.1.row, ((B1.setCell (Nat.le_refl _) _).setCell (Nat.le_refl _) _).setCell (Nat.le_refl _) _⟩
  · obtain ⟨D, eD, hF⟩ := fd_of fx
    have cf := fin_yes x hx fx
    have co := fun w h => Of_any x hx w h
    rw [eD] at co
    refine ⟨D, hF, fun w hT => ?_⟩
    have HE0 : Hd (w.alloc (.cells #[.bool false, .slice none 0 0, .int .i64 0] 32)) w.heap.size dy0 none 0 := Hd.new (d := dy0) (Or.inl rfl)
    have ZE0 := fz_new w (.bool false) (.slice none 0 0) (.int .i64 0)
    clear hF eD
    go_enter Tryd.func11, Tryd.ntmps11
    go_wp2_with (first
      | (go_at_call 28; refine (cf _).mono ?_; rintro e w' ⟨rfl, h'⟩; subst w')
      | (go_at_call 31; refine (co _ (tabW_alloc hT _)).mono ?_; rintro e w1 ⟨ax, cx, rfl, r1, f1, b1⟩; have HE6 := HE0.six ZE0 b1; have k0 := HE6.1.c0; have k1 := HE6.1.c1; have k2 := HE6.1.c2; obtain ⟨g0, g1, g2⟩ := HE6.2))
    have P3 := put3r (c := cx) (E := D) HE6.1 HE6.2 r1 f1 (by simp)
    have B1 := bth3 (bal w _) b1
    refine bodyPost_ret (v := .tuple #[.agg #[.bool D.neg, .slice ax D.mag.length cx, .int .i64 D.exp], .int .i64 0]) (by simp [results, Tryd.results11, go_sem, k0, k1, k2]) rfl ⟨ax, cx, rfl, P3.1.row, ((B1.setCell (Nat.le_refl _) _).setCell (Nat.le_refl _) _).setCell (Nat.le_refl _) _⟩
end Go.Proofs.YtalkdjgmblabgabDoor
