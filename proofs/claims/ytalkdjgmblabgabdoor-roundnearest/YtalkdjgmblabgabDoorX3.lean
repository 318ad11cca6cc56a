/- What Neg and Sign answer, the program's and the reference's; the reference's Sub. -/
import Derived.Test.YtalkdjgmblabgabDoorY6
import Derived.Test.YtalkdjgmblabgabDoorX4
import Derived.Test.YtalkdjgmblabgabDoorDx
import Derived.Test.YtalkdjgmblabgabDoorEl
import Derived.Test.YtalkdjgmblabgabDoorZe
namespace Go.Proofs.YtalkdjgmblabgabDoor
open Go.RowKit

end Go.Proofs.YtalkdjgmblabgabDoor

namespace Go.Proofs.YtalkdjgmblabgabDoor
open Go.RowKit

theorem row_blk {w : World} {ao : Option Addr} {xs : List Nat} (h : LRow w ao xs) {p : Addr} (e : ao = some p) (h0 : ¬ xs.length = 0) : p.block < w.heap.size := by
  rcases h with h | ⟨b', off', e', hc⟩
  · exact absurd h h0
  · rw [e] at e'
    cases e'
    exact World.block_lt_of_cell? w _ (hc 0 (by omega))
end Go.Proofs.YtalkdjgmblabgabDoor

namespace Go.Proofs.YtalkdjgmblabgabDoor
open Go.RowKit

theorem addD_at {a b : Dy} (ra : rightB a = true) (rb : rightB b = true) {k : Nat} (hk : b.exp = a.exp + k) : addD a b = nrm (sv a + sv b * 2 ^ k) a.exp := by
  have h1 := right_exp ra
  have h2 := right_exp rb
  unfold addD
  rw [ra, rb]
  simp only [Bool.and_self, if_true]
  have s := nrm_shift (sv a + sv b * 2 ^ k) a.exp (a.exp + 65536).toNat
  rw [show a.exp - ((a.exp + 65536).toNat : Int) = -65536 by omega] at s
  rw [← s]
  congr 1
  unfold qd
  rw [hk, show (a.exp + (k : Int) + 65536).toNat = k + (a.exp + 65536).toNat by omega, Int.pow_add, Int.add_mul, Int.mul_assoc]
theorem addD_turn (a b : Dy) : addD a b = addD b a := by
  unfold addD
  rw [Bool.and_comm, Int.add_comm]
theorem far_abs {A B : Nat} {k : Nat} (hA : A < 2 ^ (k - 2)) (hB : B ≠ 0) (hk : 2 ≤ k) : 2 ^ (k - 1) ≤ B * 2 ^ k - A := by
  have h1 : 2 ^ k = 2 * 2 ^ (k - 1) := by rw [← Nat.pow_succ']; congr 1; omega
  have h2 : 2 ^ (k - 1) = 2 * 2 ^ (k - 2) := by rw [← Nat.pow_succ']; congr 1; omega
  have h3 : 2 ^ k ≤ B * 2 ^ k := Nat.le_mul_of_pos_left _ (Nat.pos_of_ne_zero hB)
  omega
theorem far_add {a b : Dy} (ra : rightB a = true) (rb : rightB b = true) (la : Lm a.mag) (na : a.mag.length ≠ 0) (nb : b.mag.length ≠ 0) {k : Nat} (hk : b.exp = a.exp + k) (hf : 16385 < k) : addD a b = (dy0, 3) := by
  rw [addD_at ra rb hk]
  obtain ⟨a0, ao⟩ := right_ne ra na
  obtain ⟨b0, bo⟩ := right_ne rb nb
  have xa := right_exp ra
  have hA : vl a.mag < 2 ^ (k - 2) := Nat.lt_of_lt_of_le (vl_lt la) (Nat.pow_le_pow_right (by omega) (by omega))
  have hab := far_abs hA b0 (show 2 ≤ k by omega)
  obtain ⟨P, hP⟩ : ∃ P, vl b.mag * 2 ^ k = P := ⟨_, rfl⟩
  have hPe : P % 2 = 0 := by
    rw [← hP, show k = (k - 1) + 1 by omega, Nat.pow_succ, ← Nat.mul_assoc, Nat.mul_mod_left]
  have hPb : (sv b * 2 ^ k).natAbs = P := by
    rw [Int.natAbs_mul, sv_abs, Int.natAbs_pow, ← hP]; rfl
  have hAa := sv_abs a
  rw [hP] at hab
  obtain ⟨Y, hY⟩ : ∃ Y, sv b * 2 ^ k = Y := ⟨_, rfl⟩
  rw [hY] at hPb ⊢
  obtain ⟨Q, hQ⟩ : ∃ Q, 2 ^ (k - 1) = Q := ⟨_, rfl⟩
  rw [hQ] at hab
  have hS : Q ≤ (sv a + Y).natAbs := by omega
  have hva : vl a.mag % 2 = 1 := by rw [vl_odd la na]; omega
  have hodd : (sv a + Y).natAbs % 2 = 1 := by omega
  have hQp : 0 < Q := by rw [← hQ]; exact Nat.two_pow_pos _
  have ht : tz (sv a + Y).natAbs = 0 := tz_odd hodd
  have hbl : k ≤ bl (sv a + Y).natAbs := by
    by_cases h : k ≤ bl (sv a + Y).natAbs
    · exact h
    · have : (sv a + Y).natAbs < 2 ^ (k - 1) := bl_le_iff.1 (by omega)
      omega
  unfold nrm
  rw [if_neg (by omega), if_pos (by omega)]
/-- Are two dyads so far apart that their sum is too long? -/
def farB (a b : Dy) : Bool := decide (a.mag.length ≠ 0) && (decide (b.mag.length ≠ 0) && (decide (16385 < a.exp - b.exp) || decide (16385 < b.exp - a.exp)))
end Go.Proofs.YtalkdjgmblabgabDoor

namespace Go.Proofs.YtalkdjgmblabgabDoor
open Go.RowKit

/-- A product's right dyad, by the values. -/
theorem dmul_norm {a b : Dy} (ha : rightB a = true) (hb : rightB b = true) : normD ⟨a.neg != b.neg, lo (vl a.mag * vl b.mag), a.exp + b.exp⟩ = mulD a b := by
  have h1 := right_exp ha
  have h2 := right_exp hb
  unfold mulD
  rw [ha, hb]
  simp only [Bool.and_self, if_true]
  unfold normD qd
  have e : sv ⟨a.neg != b.neg, lo (vl a.mag * vl b.mag), a.exp + b.exp⟩ = sv a * sv b := by
    unfold sv
    simp only [vl_lo]
    have h := Int.natCast_mul (vl a.mag) (vl b.mag)
    cases a.neg <;> cases b.neg <;> simp [h, Int.neg_mul, Int.mul_neg]
  rw [e]
  simp only
  have s := nrm_shift (sv a * sv b) (a.exp + b.exp) ((a.exp + 65536).toNat + (b.exp + 65536).toNat)
  rw [show a.exp + b.exp - (((a.exp + 65536).toNat + (b.exp + 65536).toNat : Nat) : Int) = -131072 by omega] at s
  rw [← s]
  congr 1
  rw [Int.pow_add]
  ac_rfl
theorem mul_not {a b : Dy} (h : rightB a = false ∨ rightB b = false) : mulD a b = (dy0, 2) := by
  unfold mulD
  rcases h with h | h <;> rw [h] <;> simp
end Go.Proofs.YtalkdjgmblabgabDoor

namespace Go.Proofs.YtalkdjgmblabgabDoor
open Go.RowKit

theorem add_not {a b : Dy} (h : rightB a = false ∨ rightB b = false) : addD a b = (dy0, 2) := by
  unfold addD
  rcases h with h | h <;> rw [h] <;> simp
theorem far_long {a b : Dy} (ra : rightB a = true) (rb : rightB b = true) (la : Lm a.mag) (lb : Lm b.mag) (h : farB a b = true) : addD a b = (dy0, 3) := by
  unfold farB at h
  simp at h
  obtain ⟨h1, h2, h3⟩ := h
  have na : a.mag.length ≠ 0 := fun e => h1 (List.eq_nil_of_length_eq_zero e)
  have nb : b.mag.length ≠ 0 := fun e => h2 (List.eq_nil_of_length_eq_zero e)
  by_cases hle : a.exp ≤ b.exp
  · exact far_add ra rb la na nb (k := (b.exp - a.exp).toNat) (by omega) (by omega)
  · rw [addD_turn]
    exact far_add rb ra lb nb na (k := (a.exp - b.exp).toNat) (by omega) (by omega)
/-- The right dyad of a number of the sum's value. -/
theorem plus_norm {a b z : Dy} (ra : rightB a = true) (rb : rightB b = true) (h : PlusV ⟨a.neg, lo (vl a.mag), a.exp⟩ ⟨b.neg, lo (vl b.mag), b.exp⟩ z) : normD z = addD a b := by
  have h1 := right_exp ra
  have h2 := right_exp rb
  obtain ⟨_, he, hv⟩ := h
  have hz : -65536 ≤ z.exp := by simp only at he; omega
  have e := hv (-65536) (by simp only; omega) (by simp only; omega)
  have sa : sv ⟨a.neg, lo (vl a.mag), a.exp⟩ = sv a := by unfold sv; simp only [vl_lo]
  have sb : sv ⟨b.neg, lo (vl b.mag), b.exp⟩ = sv b := by unfold sv; simp only [vl_lo]
  rw [sa, sb] at e
  simp only at e
  unfold addD
  rw [ra, rb]
  simp only [Bool.and_self, if_true]
  have s := nrm_shift (sv z) z.exp (z.exp + 65536).toNat
  rw [show z.exp - ((z.exp + 65536).toNat : Int) = -65536 by omega] at s
  unfold normD
  rw [← s]
  have e2 : sv z * 2 ^ (z.exp + 65536).toNat = qd a + qd b := e
  rw [e2]
end Go.Proofs.YtalkdjgmblabgabDoor

namespace Go.Proofs.YtalkdjgmblabgabDoor
open Go.RowKit

def negD (d : Dy) : Dy × Int := if rightB d then (trn d, 0) else (dy0, 2)
theorem neg_norm {d : Dy} (hL : Lm d.mag) (hr : rightB d = true) : normD ⟨!d.neg, lo (vl d.mag), d.exp⟩ = negD d := by
  unfold negD
  rw [if_pos hr]
  have e : normD ⟨!d.neg, lo (vl d.mag), d.exp⟩ = normD (trn d) := by
    unfold normD
    congr 1
    unfold sv trn
    simp only [vl_lo]
    by_cases h0 : d.mag.length = 0
    · have hm : d.mag = [] := List.eq_nil_of_length_eq_zero h0
      rw [hm]; simp [vl]
    · have h1 : decide (0 < d.mag.length) = true := decide_eq_true (by omega)
      rw [h1]; simp
  rw [e]
  exact nrm_right (d := trn d) hL (trn_right hr)
theorem sg_right {d : Dy} (hr : rightB d = true) : sgD d = sgI (sv d) := by
  unfold sgD
  rcases right_cases hr with h | ⟨h0, _, _, h3, _⟩
  · rw [h]; rfl
  · rw [if_neg h0]
    have hv := vl_ne_last h0 h3
    unfold sgI sv
    cases d.neg <;> simp <;> omega
set_option maxHeartbeats 2000000 in
theorem neg_any (d : Dy) (ao : Option Addr) (cap : Nat) (w : World) (hr : LRow w ao d.mag) (hL : Lm d.mag) :
    Calls Tryd.prog 33 #[.agg #[.bool d.neg, .slice ao d.mag.length cap, .int .i64 d.exp]] w (Gave w (negD d)) := by
  have hR := fun w' (h : LRow w' ao d.mag) => right_any d ao cap w' h hL
  cases hrt : rightB d <;> rw [hrt] at hR
  · have HE : Hid (negD d = (dy0, 2)) := (show _ = _ by unfold negD; rw [if_neg (by rw [hrt]; simp)])
    obtain ⟨neg, xs, ex⟩ := d
    simp only at *
    clear hrt
    go_enter Tryd.func33, Tryd.ntmps33
    go_wp2_with (go_at_call 34; refine (hR _ ((hr.alloc _).alloc _)).mono ?_; rintro e w1 ⟨rfl, hb⟩; obtain ⟨⟨c0, c1, c2⟩, ⟨d0, d1, d2⟩, ⟨g0, g1, g2⟩, _⟩ := box2 hb)
    rw [HE.out]
    exact bodyPost_ret (v := .tuple #[.agg #[.bool false, .slice none 0 0, .int .i64 0], .int .i64 2]) (by simp [results, Tryd.results33, go_sem, d0, d1, d2]) rfl ⟨none, 0, rfl, LRow.nil _ _, Frs.none _, box2_end hb _ _ _⟩
  · have HE : Hid (negD d = (trn d, 0)) := (show _ = _ by unfold negD; rw [if_pos hrt])
    have hx := right_exp hrt
    have hT := fun w' => turned_any d ao cap w'
    have hC := fun w' (h : LRow w' ao d.mag) => copied_any (trn d) ao cap w' h (by show d.mag.length ≤ _; omega)
    rw [HE.out]
    obtain ⟨tn, htn⟩ : ∃ tn, (trn d).neg = tn := ⟨_, rfl⟩
    have ht : trn d = ⟨tn, d.mag, d.exp⟩ := by rw [← htn]; rfl
    rw [ht] at hC ⊢
    rw [htn] at hT
    obtain ⟨neg, xs, ex⟩ := d
    simp only at *
    clear hrt HE htn ht
    go_enter Tryd.func33, Tryd.ntmps33
    go_wp2_with (first
      | (go_at_call 34; refine (hR _ ((hr.alloc _).alloc _)).mono ?_; rintro e w1 ⟨rfl, hb⟩; obtain ⟨⟨c0, c1, c2⟩, ⟨d0, d1, d2⟩, ⟨g0, g1, g2⟩, _⟩ := box2 hb)
      | (go_at_call 36; refine (hT _).mono ?_; rintro e w2 ⟨rfl, hb2⟩; have hb3 := hb.trans (hb2.mono hb.size))
      | (go_at_call 39; refine (hC _ (((hr.alloc _).alloc _).below hb3)).mono ?_; rintro e w3 ⟨ao3, cap3, rfl, r3, fr3, hb4⟩; have hb5 := hb3.trans (hb4.mono hb3.size); clear c0 c1 c2 d0 d1 d2 g0 g1 g2; obtain ⟨⟨c0, c1, c2⟩, ⟨d0, d1, d2⟩, ⟨g0, g1, g2⟩, _⟩ := box2 hb5))
    have hs := hb3.size
    simp at hs
    have hfr2 : Frs (w.heap.size + 2) ao3 := fr3.mono (by omega)
    refine bodyPost_ret (v := .tuple #[.agg #[.bool tn, .slice ao3 xs.length cap3, .int .i64 ex], .int .i64 0]) (by simp [results, Tryd.results33, go_sem, d0, d1, d2]) rfl ⟨ao3, cap3, rfl, ?_, hfr2.mono (by omega), box2_end hb5 _ _ _⟩
    exact ((r3.box hfr2 (by omega) _ _).box hfr2 (by omega) _ _).box hfr2 (by omega) _ _
theorem sign_all (d : Dy) (ao : Option Addr) (cap : Nat) (w : World) (hr : LRow w ao d.mag) (hL : Lm d.mag) :
    Calls Tryd.prog 74 #[.agg #[.bool d.neg, .slice ao d.mag.length cap, .int .i64 d.exp]] w fun e w' => e = .returned (.tuple #[.int .i64 (signD d).1, .int .i64 (signD d).2]) ∧ Below w.heap.size w w' := by
  obtain ⟨neg, xs, ex⟩ := d
  unfold signD
  cases hrt : rightB ⟨neg, xs, ex⟩
  · exact Sign_arg neg xs ex ao cap w hr hL hrt
  · have h := Sign_ok neg xs ex ao cap w hr hL hrt
    rw [sg_right hrt] at h
    exact h
end Go.Proofs.YtalkdjgmblabgabDoor
