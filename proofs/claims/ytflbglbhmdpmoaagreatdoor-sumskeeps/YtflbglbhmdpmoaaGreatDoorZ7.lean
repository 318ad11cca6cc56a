/- What the document's Of (layer 3) answers: one step on from the nearest float. -/
import Derived.Test.YtflbglbhmdpmoaaGreatDoorU9
import Derived.Test.YtflbglbhmdpmoaaGreatDoorZ4
import Derived.Deep.DeepCutAuto
namespace Go.Proofs.YtflbglbhmdpmoaaGreatDoor
open Go.RowKit

/-- What is kept of a number's limbs at the power last and above. -/
def cutL (xs : List Nat) (ex last : Int) : List Nat := if last ≤ ex then xs else lo (vl xs / 2 ^ (last - ex).toNat)
set_option maxHeartbeats 1000000 in
theorem cut00_any (xs : List Nat) (ex last : Int) (ao : Option Addr) (cap : Nat) (w : World) (hr : NS w ao cap xs) (hL : Lm xs) (hn : xs.length ≤ 1000000) (h0 : vl xs ≠ 0) (e1 : -65536 ≤ ex) (e2 : ex ≤ 65536) (l1 : -65536 ≤ last) (l2 : last ≤ 65536000) :
    Calls Tryz.prog 110 #[.agg #[.bool false, .slice ao xs.length cap, .int .i64 ex], .int .i64 last, .bool false] w fun e w' => ∃ o c, e = .returned (.agg #[.bool false, .slice o (cutL xs ex last).length c, .int .i64 (max ex last)]) ∧ NS w' o c (cutL xs ex last) ∧ Below w.heap.size w w' := by
  have hZ := fun W (h : NS W ao cap xs) => zero_any ⟨false, xs, ex⟩ ao cap W h hL (by simp only; omega)
  have hz : (vl xs == 0) = false := by simpa using h0
  simp only [hz] at hZ
  have hl0 : xs.length ≠ 0 := fun h => h0 (by rw [List.eq_nil_of_length_eq_zero h]; rfl)
  by_cases hc : last ≤ ex
  · have hC : cutL xs ex last = xs := by unfold cutL; rw [if_pos hc]
    have hm : max ex last = ex := by omega
    rw [hC, hm]
    clear hz hL h0
    go_enter Tryz.func110, Tryz.ntmps110
    go_wp2_with (go_at_call 68; refine (hZ _ (hr.below (((Below.refl _ _).alloc (Nat.le_refl _) _).alloc (by simp) _))).mono ?_; rintro e w1 ⟨rfl, b1⟩; obtain ⟨⟨c0, c1, c2⟩, ⟨d0, d1, d2⟩, ⟨f0, f1, f2⟩, _⟩ := box2 b1)
    refine bodyPost_ret (v := .agg #[.bool false, .slice ao xs.length cap, .int .i64 ex]) (by simp [results, Tryz.results110, go_sem, d0, d1, d2]) rfl ⟨ao, cap, rfl, ?_, box2_end b1 _ _ _⟩
    have h1 := hr.below (box2_old b1)
    have hne : ∀ x off, ao = some ⟨x, off, none⟩ → xs.length ≠ 0 → x ≠ w.heap.size + 1 := fun x off e h0 => by have : x < w.heap.size := row_blk hr.1 e h0; omega
    exact ⟨((h1.1.setCell _ hne).setCell _ hne).setCell _ hne, h1.2⟩
  · have hC : cutL xs ex last = lo (vl xs / 2 ^ (last - ex).toNat) := by unfold cutL; rw [if_neg hc]
    have hm : max ex last = last := by omega
    have hD := fun W (h : NS W ao cap xs) => natDown_any xs ao cap (last - ex).toNat W h hL (by omega) (by omega)
    rw [show (((last - ex).toNat : Nat) : Int) = last - ex by omega] at hD
    rw [hC, hm]
    generalize (vl xs % 2 ^ (last - ex).toNat != 0) = l at hD
    generalize lo (vl xs / 2 ^ (last - ex).toNat) = ys at *
    have hng : ¬ ex ≥ last := by omega
    clear hz hL h0 hC
    cases l
    all_goals
      go_enter Tryz.func110, Tryz.ntmps110
      go_wp2_with (first
        | (go_at_call 68; refine (hZ _ (hr.below (((Below.refl _ _).alloc (Nat.le_refl _) _).alloc (by simp) _))).mono ?_; rintro e w1 ⟨rfl, b1⟩; obtain ⟨⟨c0, c1, c2⟩, ⟨d0, d1, d2⟩, ⟨f0, f1, f2⟩, _⟩ := box2 b1)
        | (go_at_call 136; refine (hD _ (hr.below (box2_old b1))).mono ?_; rintro e w2 ⟨o, c, rfl, h2, g2, b2⟩; have b3 := b1.trans (b2.mono b1.size); clear c0 c1 c2 d0 d1 d2 f0 f1 f2; obtain ⟨⟨c0, c1, c2⟩, ⟨d0, d1, d2⟩, ⟨f0, f1, f2⟩, _⟩ := box2 b3))
      refine bodyPost_ret (v := .agg #[.bool false, .slice o ys.length c, .int .i64 last]) (by simp [results, Tryz.results110, go_sem, d0, d1, d2]) rfl ⟨o, c, rfl, ?_, box2_end b3 _ _ _⟩
      have hs1 := b1.size
      simp at hs1
      have hne : ∀ x off, o = some ⟨x, off, none⟩ → ys.length ≠ 0 → x ≠ w.heap.size + 1 := fun x off e _ => by have h : w1.heap.size ≤ x := g2 _ e; omega
      exact ⟨((h2.1.setCell _ hne).setCell _ hne).setCell _ hne, h2.2⟩
end Go.Proofs.YtflbglbhmdpmoaaGreatDoor

namespace Go.Proofs.YtflbglbhmdpmoaaGreatDoor
open Go.RowKit

theorem bl_log {v : Nat} (h : v ≠ 0) : (bl v : Int) = v.log2 + 1 := by unfold bl; rw [if_neg h]; omega
theorem cut_evenW (neg : Bool) (n d : Nat) : Ieee.Toward.even.cut neg n d = n / 2 ^ d + (if 2 ^ d < 2 * (n % 2 ^ d) ∨ (2 ^ d = 2 * (n % 2 ^ d) ∧ n / 2 ^ d % 2 = 1) then 1 else 0) := by
  unfold Ieee.Toward.cut
  simp only []
  by_cases hd : d ≤ n.log2 + 2
  · rw [Nat.min_eq_left hd, Nat.shiftLeft_eq, Nat.one_mul]
    congr 1
    by_cases h1 : 2 ^ d < 2 * (n % 2 ^ d)
    · simp [h1]
    · by_cases h2 : 2 ^ d = 2 * (n % 2 ^ d) ∧ n / 2 ^ d % 2 = 1
      · rw [if_pos (Or.inr h2)]
        rw [decide_eq_false h1, beq_iff_eq.2 h2.1, beq_iff_eq.2 h2.2]; rfl
      · rw [if_neg (fun h => h.elim h1 h2), decide_eq_false h1]
        have : (2 ^ d == 2 * (n % 2 ^ d) && n / 2 ^ d % 2 == 1) = false := by
          rw [Bool.eq_false_iff]; intro h
          simp only [Bool.and_eq_true, beq_iff_eq] at h
          exact h2 h
        rw [this]; rfl
  · have hlt : n < 2 ^ (n.log2 + 1) := Nat.lt_log2_self
    have e1 : 2 ^ (n.log2 + 2) = 2 * 2 ^ (n.log2 + 1) := by rw [Nat.pow_succ 2 (n.log2 + 1), Nat.mul_comm]
    have e2 : 2 ^ (n.log2 + 2) ≤ 2 ^ d := Nat.pow_le_pow_right (by omega) (by omega)
    rw [Nat.min_eq_right (by omega), Nat.shiftLeft_eq, Nat.one_mul]
    generalize 2 ^ (n.log2 + 1) = A at *
    generalize 2 ^ (n.log2 + 2) = B at *
    generalize 2 ^ d = C at *
    rw [Nat.div_eq_of_lt (show n < B by omega), Nat.mod_eq_of_lt (show n < B by omega), Nat.div_eq_of_lt (show n < C by omega), Nat.mod_eq_of_lt (show n < C by omega), if_neg (by omega)]
    have h1 : decide (B < 2 * n) = false := by simp; omega
    rw [h1]
    simp
/-- What is left against the half, and what is kept in the end. -/
def nHalf (V : Nat) (ex L : Int) : Int := if L ≤ ex then -1 else sgI (((V % 2 ^ (L - ex).toNat : Nat) : Int) * 2 - ((2 ^ (L - ex).toNat : Nat) : Int))
def nK (V : Nat) (ex : Int) : Nat := if 0 < nHalf V ex (rLa V ex) ∨ (nHalf V ex (rLa V ex) = 0 ∧ K0 V ex % 2 = 1) then K0 V ex + 1 else K0 V ex
theorem nK_bd {V : Nat} {ex : Int} (h0 : V ≠ 0) : nK V ex ≤ 9007199254740992 ∧ (rLa V ex = -1074 ∨ 4503599627370496 ≤ nK V ex) ∧ -1074 ≤ rLa V ex ∧ K0 V ex < 9007199254740992 := by
  obtain ⟨b1, b2, _⟩ := K0_bd (e := ex) h0
  refine ⟨by unfold nK; split <;> omega, b2.imp id (fun h => by unfold nK; split <;> omega), (rLa_cases V ex).1, b1⟩
theorem near_plain (neg : Bool) {V : Nat} {ex : Int} (h0 : V ≠ 0) : Ieee.double.nearest neg V ex = Ieee.double.word neg (ldW (nK V ex) (rLa V ex)) := by
  have s2 : Ieee.double.binade = 4503599627370496 := by decide
  have s3 : Ieee.double.infRung = 9218868437227405312 := by decide
  have s4 : Ieee.double.leastPlace = -1074 := by decide
  have s5 : (Ieee.double.fractionBits : Int) = 52 := by decide
  have hb := bl_log h0
  unfold Ieee.Format.nearest
  simp only [s2, s3, s4, s5]
  rw [if_neg h0]
  have hlast : max (ex + (V.log2 : Int) - 52) (-1074) = rLa V ex := by unfold rLa; omega
  rw [hlast, cut_evenW]
  unfold ldW rW
  rw [show rLa V ex - -1074 = rLa V ex + 1074 by omega]
  suffices key : (V <<< (ex - rLa V ex).toNat) / 2 ^ (rLa V ex - ex).toNat + (if 2 ^ (rLa V ex - ex).toNat < 2 * ((V <<< (ex - rLa V ex).toNat) % 2 ^ (rLa V ex - ex).toNat) ∨ (2 ^ (rLa V ex - ex).toNat = 2 * ((V <<< (ex - rLa V ex).toNat) % 2 ^ (rLa V ex - ex).toNat) ∧ (V <<< (ex - rLa V ex).toNat) / 2 ^ (rLa V ex - ex).toNat % 2 = 1) then 1 else 0) = nK V ex by rw [key]
  have hd : rDr V ex = rLa V ex - ex := rfl
  unfold nK nHalf K0 shr
  rw [hd]
  by_cases hc : rLa V ex ≤ ex
  · rw [if_pos hc, if_neg (by omega : ¬ (0 < (-1 : Int) ∨ ((-1 : Int) = 0 ∧ _)))]
    have e2 : (rLa V ex - ex).toNat = 0 := by omega
    rw [e2, Nat.pow_zero, Nat.mod_one, Nat.div_one, if_neg (by omega), Nat.add_zero, Nat.shiftLeft_eq]
    by_cases he : 0 ≤ rLa V ex - ex
    · rw [if_pos he, show (ex - rLa V ex).toNat = 0 by omega, Nat.pow_zero, Nat.mul_one, Nat.div_one]
    · rw [if_neg he, show -(rLa V ex - ex) = ex - rLa V ex by omega]
  · rw [if_neg hc, if_pos (by omega : 0 ≤ rLa V ex - ex)]
    have e2 : (ex - rLa V ex).toNat = 0 := by omega
    rw [e2, Nat.shiftLeft_zero]
    generalize (2 : Nat) ^ (rLa V ex - ex).toNat = P
    generalize V % P = R
    generalize V / P = Q
    by_cases h1 : P < 2 * R
    · rw [sgI_pos (by omega : (0 : Int) < (R : Int) * 2 - (P : Int)), if_pos (Or.inl h1), if_pos (Or.inl (by omega))]
    · by_cases h2 : P = 2 * R
      · have h3 : sgI ((R : Int) * 2 - (P : Int)) = 0 := by rw [show (R : Int) * 2 - (P : Int) = 0 by omega]; rfl
        rw [h3]
        by_cases h4 : Q % 2 = 1
        · rw [if_pos (Or.inr ⟨h2, h4⟩), if_pos (Or.inr ⟨rfl, h4⟩)]
        · rw [if_neg (fun h => h.elim h1 (fun h => h4 h.2)), if_neg (fun h => h.elim (by omega) (fun h => h4 h.2)), Nat.add_zero]
      · rw [sgI_neg (by omega : (R : Int) * 2 - (P : Int) < 0), if_neg (fun h => h.elim h1 (fun h => h2 h.1)), if_neg (by omega), Nat.add_zero]
end Go.Proofs.YtflbglbhmdpmoaaGreatDoor

namespace Go.Proofs.YtflbglbhmdpmoaaGreatDoor
open Go.RowKit

theorem sv_pos (xs : List Nat) (e : Int) : sv ⟨false, xs, e⟩ = (vl xs : Int) := by unfold sv; simp
theorem sv_less (xs : List Nat) (e : Int) : sv ⟨true, xs, e⟩ = -(vl xs : Int) := by unfold sv; simp
theorem rest_half {xs : List Nat} {ex L : Int} {z : Dy} (hx : -65536 ≤ ex) (hl : -65535 ≤ L) (h : PlusV ⟨false, xs, ex⟩ ⟨!false, cutL xs ex L, max ex L⟩ z) : sgI (qd z - qd ⟨false, lo 1, L - 1⟩) = nHalf (vl xs) ex L := by
  have e := h.2.2 (-65536) hx (by simp only; omega)
  simp only [Bool.not_false] at e
  rw [sv_pos, sv_less] at e
  have hq : qd z = (vl xs : Int) * 2 ^ (ex + 65536).toNat - (vl (cutL xs ex L) : Int) * 2 ^ (max ex L + 65536).toNat := by
    have e1 : qd z = sv z * 2 ^ (z.exp - -65536).toNat := by unfold qd; rw [show z.exp - -65536 = z.exp + 65536 by omega]
    rw [e1, e, show ex - -65536 = ex + 65536 by omega, show max ex L - -65536 = max ex L + 65536 by omega, Int.neg_mul]
    omega
  have hh : qd ⟨false, lo 1, L - 1⟩ = 2 ^ (L - 1 + 65536).toNat := by unfold qd; rw [sv_pos, vl_lo]; simp
  rw [hq, hh]
  unfold nHalf cutL
  by_cases hc : L ≤ ex
  · rw [if_pos hc, if_pos hc, show max ex L = ex by omega, Int.sub_self]
    have := pow_pos_int (L - 1 + 65536).toNat
    exact sgI_neg (by omega)
  · rw [if_neg hc, if_neg hc, show max ex L = L by omega, vl_lo]
    obtain ⟨d, hd⟩ : ∃ d : Nat, (L - ex).toNat = d + 1 := ⟨(L - ex).toNat - 1, by omega⟩
    rw [hd, show (L + 65536).toNat = (d + 1) + (ex + 65536).toNat by omega, show (L - 1 + 65536).toNat = d + (ex + 65536).toNat by omega, pow_add_int (d + 1) (ex + 65536).toNat, pow_add_int d (ex + 65536).toNat]
    have hm := Nat.mod_add_div (vl xs) (2 ^ (d + 1))
    have hc2 : ((2 ^ (d + 1) : Nat) : Int) = 2 ^ d * 2 := by rw [Nat.pow_succ]; simp
    have hc3 : (2 : Int) ^ (d + 1) = 2 ^ d * 2 := by rw [Int.pow_succ]
    have hm2 : (vl xs : Int) = ((vl xs % 2 ^ (d + 1) : Nat) : Int) + 2 ^ d * 2 * ((vl xs / 2 ^ (d + 1) : Nat) : Int) := by
      rw [← hc2, ← Int.natCast_mul, ← Int.natCast_add, hm]
    have e2 : (vl xs : Int) * 2 ^ (ex + 65536).toNat - ((vl xs / 2 ^ (d + 1) : Nat) : Int) * (2 ^ (d + 1) * 2 ^ (ex + 65536).toNat) - 2 ^ d * 2 ^ (ex + 65536).toNat = (((vl xs % 2 ^ (d + 1) : Nat) : Int) - 2 ^ d) * 2 ^ (ex + 65536).toNat := by
      rw [hc3]
      generalize ((vl xs % 2 ^ (d + 1) : Nat) : Int) = R at *
      generalize ((vl xs / 2 ^ (d + 1) : Nat) : Int) = Q at *
      generalize (2 : Int) ^ (ex + 65536).toNat = B at *
      generalize (2 : Int) ^ d = A at *
      rw [hm2, Int.add_mul, Int.sub_mul, ← Int.mul_assoc Q, Int.mul_comm Q (A * 2)]
      omega
    rw [e2, sg_mul, hc2]
    generalize ((vl xs % 2 ^ (d + 1) : Nat) : Int) = R
    generalize (2 : Int) ^ d = A
    unfold sgI
    (repeat' split) <;> omega
/-- A box just made and filled. -/
theorem Hd.newT {w : World} {d : Dy} {ao : Option Addr} {cap : Nat} {t : TypeId} (h : LRow w ao d.mag) : Hd (w.alloc (.cells #[.bool d.neg, .slice ao d.mag.length cap, .int .i64 d.exp] t)) w.heap.size d ao cap := by
  refine ⟨?_, ?_, ?_, h.alloc _⟩ <;> go_simp
theorem Hd.allocT {w : World} {p : Nat} {d : Dy} {ao : Option Addr} {cap : Nat} (h : Hd w p d ao cap) (o : Obj) : Hd (w.alloc o) p d ao cap := h.below ((Below.refl _ _).alloc (Nat.le_refl _) o)
end Go.Proofs.YtflbglbhmdpmoaaGreatDoor

namespace Go.Proofs.YtflbglbhmdpmoaaGreatDoor
open Go.RowKit

set_option maxHeartbeats 4000000 in
set_option maxRecDepth 100000 in
theorem nearest00_any (neg : Bool) (xs : List Nat) (ex : Int) (ao : Option Addr) (cap : Nat) (w : World) (hr : NS w ao cap xs) (hL : Lm xs) (hn : xs.length ≤ 10000) (h0 : vl xs ≠ 0) (e1 : -65000 ≤ ex) (e2 : ex ≤ 65000) (e3 : ex + (bl (vl xs) : Int) ≤ 65000) :
    Calls Tryz.prog 75 #[.agg #[.bool neg, .slice ao xs.length cap, .int .i64 ex]] w fun e w' => e = .returned (.float .f64 (Ieee.double.nearest neg (vl xs) ex)) ∧ Below w.heap.size w w' := by
  have hZ := fun W (h : NS W ao cap xs) => zero_any ⟨neg, xs, ex⟩ ao cap W h hL (by simp only; omega)
  have hz : (vl xs == 0) = false := by simpa using h0
  simp only [hz] at hZ
  have hTp := fun W (h : NS W ao cap xs) => ntop_any ⟨neg, xs, ex⟩ ao cap W h hL (by simp only; omega) (by simp only; omega)
  obtain ⟨bK1, bK2, bK3, bK4⟩ := nK_bd (ex := ex) h0
  have hP := near_plain neg (ex := ex) h0
  have HK : Hid (∀ L, rLa (vl xs) ex = L → (vl (cutL xs ex L) == 0) = (K0 (vl xs) ex == 0) ∧ vl (cutL xs ex L) * 2 ^ (max ex L - L).toNat = K0 (vl xs) ex) := (show ∀ L, _ from fun L hl => by
    unfold cutL K0 shr rDr
    rw [hl]
    by_cases hc : L ≤ ex
    · rw [if_pos hc, show max ex L = ex by omega]
      by_cases hd : 0 ≤ L - ex
      · rw [if_pos hd, show (L - ex).toNat = 0 by omega, show (ex - L).toNat = 0 by omega]; simp
      · rw [if_neg hd, show -(L - ex) = ex - L by omega]
        refine ⟨?_, rfl⟩
        rw [hz]; symm
        have := Nat.mul_pos (Nat.pos_of_ne_zero h0) (Nat.two_pow_pos (ex - L).toNat)
        simp; omega
    · rw [if_neg hc, if_pos (by omega : 0 ≤ L - ex), vl_lo, show (max ex L - L).toNat = 0 by omega]; simp)
  have HH : Hid (∀ z, PlusV ⟨false, xs, ex⟩ ⟨!false, cutL xs ex (rLa (vl xs) ex), max ex (rLa (vl xs) ex)⟩ z → sgI (qd z - qd ⟨false, lo 1, rLa (vl xs) ex - 1⟩) = nHalf (vl xs) ex (rLa (vl xs) ex)) := (show ∀ z, _ from fun z h => rest_half (by omega) (by omega) h)
  have HL : Hid (rLa (vl xs) ex = if ex + (bl (vl xs) : Int) - 53 < -1074 then -1074 else ex + (bl (vl xs) : Int) - 53) := (show _ = _ by unfold rLa; split <;> omega)
  have hLb : rLa (vl xs) ex ≤ 65000 := by unfold rLa; omega
  have HK1 : Hid (nK (vl xs) ex = if 0 < nHalf (vl xs) ex (rLa (vl xs) ex) ∨ (nHalf (vl xs) ex (rLa (vl xs) ex) = 0 ∧ K0 (vl xs) ex % 2 = 1) then K0 (vl xs) ex + 1 else K0 (vl xs) ex) := rfl
  obtain ⟨L, hLa⟩ : ∃ L, rLa (vl xs) ex = L := ⟨_, rfl⟩
  obtain ⟨hk1, hk2⟩ := HK.out L hLa
  rw [hLa] at bK2 bK3 hP HH HL hLb HK1
  obtain ⟨K, hK⟩ : ∃ K, K0 (vl xs) ex = K := ⟨_, rfl⟩
  rw [hK] at hk1 hk2 bK4 HK1
  obtain ⟨N1, hN1⟩ : ∃ N, nK (vl xs) ex = N := ⟨_, rfl⟩
  rw [hN1] at bK1 bK2 hP HK1
  obtain ⟨H, hH⟩ : ∃ H, nHalf (vl xs) ex L = H := ⟨_, rfl⟩
  rw [hH] at HH HK1
  rw [hP]
  have hld := fun W => ldexp_any N1 L bK1 bK3 (by omega) bK2 W
  have hqb : ldW N1 L ≤ 9218868437227405312 := by unfold ldW; exact Nat.min_le_right _ _
  obtain ⟨q, hq⟩ : ∃ q, ldW N1 L = q := ⟨_, rfl⟩
  rw [hq] at hqb ⊢
  simp only [hq] at hld
  have HS : Hid (Ieee.double.word neg q = if neg then Op.negFloat .f64 q else q) := (show _ = _ by
    cases neg
    · rw [word_pos]; simp
    · rw [word_neg, neg_word (by omega)]; simp)
  obtain ⟨R, hR⟩ : ∃ R, Ieee.double.word neg q = R := ⟨_, rfl⟩
  rw [hR] at HS ⊢
  clear hq hR hqb
  have hcut0 := fun W (h : NS W ao cap xs) => cut00_any xs ex L ao cap W h hL (by omega) h0 (by omega) (by omega) (by omega) (by omega)
  have hcl : Lm (cutL xs ex L) := by unfold cutL; split; · exact hL
                                     · exact lo_lm _
  have hcn : (cutL xs ex L).length ≤ 10000 := by
    unfold cutL; split
    · exact hn
    · have := lo_len hL
      have h5 : (lo (vl xs / 2 ^ (L - ex).toNat)).length ≤ (lo (vl xs)).length := by
        rw [lo_length, lo_length]; unfold nl; rw [bl_div]; omega
      omega
  have hle := fun W o c (h1 : NS W ao cap xs) (h2 : NS W o c (cutL xs ex L)) => less_blk ⟨false, xs, ex⟩ ⟨false, cutL xs ex L, max ex L⟩ ao o cap c W h1 h2 hL hcl (by simp only; omega) (by simp only; omega) (by simp only; omega) (by simp only; omega) (by simp only; omega) (by simp only; omega)
  have hUp := fun W o c (h : NS W o c (cutL xs ex L)) => natUp_any (cutL xs ex L) o c (max ex L - L).toNat W h hcl (by omega) (by omega)
  rw [hk2] at hUp
  rw [show (((max ex L - L).toNat : Nat) : Int) = max ex L - L by omega] at hUp
  have hZ2 := fun W o c (h : NS W o c (cutL xs ex L)) => zero_any ⟨false, cutL xs ex L, max ex L⟩ o c W h hcl (by simp only; omega)
  simp only [hk1] at hZ2
  have hO1 : ∀ W : World, Calls Tryz.prog 102 #[.int .u64 1] W (GaveN W (lo 1)) := fun W => natOf_any 1 (by omega) W
  have hCm := fun (z : Dy) W zo zc o c (hz1 : PlusV ⟨false, xs, ex⟩ ⟨!false, cutL xs ex L, max ex L⟩ z) (hzl : z.mag.length ≤ 100000) (h1 : NS W zo zc z.mag) (h2 : NS W o c (lo 1)) => compare_any z ⟨false, lo 1, L - 1⟩ zo o zc c W h1 h2 hz1.1 (lo_lm 1) (by omega) (by simp only; rw [lo_length]; decide) (by have := hz1.2.1; simp only at this; omega) (by have := hz1.2.1; simp only at this; omega) (by simp only; omega) (by simp only; omega)
  clear HK hLa hK hN1 hH hk1 hk2 hP hz h0 bK2 hcl
  go_enter Tryz.func75, Tryz.ntmps75
  go_upto_region 3 with (go_at_call 68; refine (hZ _ (hr.below ((Below.refl _ _).alloc (Nat.le_refl _) _))).mono ?_; rintro e w1 ⟨rfl, b1⟩)
  obtain ⟨⟨c0, c1, c2⟩, _, ho1⟩ := fbox b1
  have Hx : Hd w1 w.heap.size ⟨neg, xs, ex⟩ ao cap := ⟨c0, c1, c2, hr.1.below ho1⟩
  clear b1 c0 c1 c2 hZ
  go_cut [11, 12, 13, 14, 3] (fun _ _ _ _ s3 wx => s3 = .int .i64 L ∧ Hd wx w.heap.size ⟨neg, xs, ex⟩ ao cap ∧ Below w.heap.size w wx)
  case first =>
    as_aux_lemma =>
      have hc := hTp _ ⟨Hx.row, hr.2⟩
      obtain ⟨a0, a1, a2, ar⟩ := id Hx
      go_wp2_with (go_at_call 109; refine hc.mono ?_; rintro e w2 ⟨rfl, b2⟩)
      all_goals go_meet
      all_goals exact ⟨by have := HL.out; first | (rw [this]; (repeat' split) <;> first | rfl | omega) | (congr 1; rw [this]; (repeat' split) <;> omega), Hx.below b2, ho1.trans (b2.mono ho1.size)⟩
  clear Hx ho1 hTp
  obtain ⟨rfl, Hx, hB⟩ := hcut
  obtain ⟨wq, hwq⟩ : ∃ wq, wq = wc := ⟨_, rfl⟩
  subst hwq
  go_upto_region 4 with fail
  go_cut [15, 16, 17, 18, 19, 20, 21, 4] (fun _ _ _ _ _ _ _ s4 wx => ∃ p o c, s4 = .pointer (some ⟨p, 0, none⟩) ∧ (cutL xs ex L).length ≤ c ∧ (o = none → c = 0 ∧ (cutL xs ex L).length = 0) ∧ Hd wx p ⟨false, cutL xs ex L, max ex L⟩ o c ∧ Hd wx w.heap.size ⟨neg, xs, ex⟩ ao cap ∧ Below w.heap.size w wx)
  case first =>
    as_aux_lemma =>
      have hc := hcut0 _ ⟨Hx.row, hr.2⟩
      obtain ⟨a0, a1, a2, ar⟩ := id Hx
      go_wp2_with (go_at_call 110; refine hc.mono ?_; rintro e w2 ⟨o, c, rfl, n2, b2⟩)
      go_meet
      have hB2 : Below w.heap.size w w2 := hB.trans (b2.mono hB.size)
      exact ⟨w2.heap.size, o, c, rfl, n2.2.2, n2.2.1, Hd.newT (d := ⟨false, cutL xs ex L, max ex L⟩) n2.1, (Hx.below b2).allocT _, hB2.alloc hB2.size _⟩
  clear Hx hB hcut0
  obtain ⟨p4, o4, c4, rfl, hcc, hco, Hc, Hx, hB⟩ := hcut
  obtain ⟨wq, hwq⟩ : ∃ wq, wq = wc := ⟨_, rfl⟩
  subst hwq
  go_upto_region 6 with fail
  go_cut [22, 23, 24] (fun _ _ s24 wx => s24 = .bool (!(K == 0)) ∧ Hd wx p4 ⟨false, cutL xs ex L, max ex L⟩ o4 c4 ∧ Hd wx w.heap.size ⟨neg, xs, ex⟩ ao cap ∧ Below w.heap.size w wx)
  case first =>
    as_aux_lemma =>
      have hc := hZ2 _ _ _ ⟨Hc.row, hco, hcc⟩
      obtain ⟨a0, a1, a2, ar⟩ := id Hc
      generalize (K == 0) = kb at *
      cases kb
      all_goals
        go_wp2_with (go_at_call 68; refine hc.mono ?_; rintro e w2 ⟨rfl, b2⟩)
        go_meet
        exact ⟨rfl, Hc.below b2, Hx.below b2, hB.trans (b2.mono hB.size)⟩
  clear Hx hB Hc hZ2
  obtain ⟨rfl, Hc, Hx, hB⟩ := hcut
  obtain ⟨wq, hwq⟩ : ∃ wq, wq = wc := ⟨_, rfl⟩
  subst hwq
  go_upto_if 24 with fail
  go_cut [25, 26, 27, 28, 29, 30, 31, 32, 33, 5] (fun _ _ _ _ _ _ _ _ _ s5 wx => s5 = .int .u64 (K : Nat) ∧ Hd wx p4 ⟨false, cutL xs ex L, max ex L⟩ o4 c4 ∧ Hd wx w.heap.size ⟨neg, xs, ex⟩ ao cap ∧ Below w.heap.size w wx)
  case first =>
    as_aux_lemma =>
      by_cases hK0 : K = 0
      · subst hK0
        go_wp2
        go_meet
        exact ⟨rfl, Hc, Hx, hB⟩
      · have hkb : (K == 0) = false := by simpa using hK0
        have hc := hUp _ _ _ ⟨Hc.row, hco, hcc⟩
        obtain ⟨a0, a1, a2, ar⟩ := id Hc
        simp only at a1 a2
        rw [hkb]
        go_wp2_with (go_at_call 69; refine hc.mono ?_; rintro e w2 ⟨o, c, rfl, n2, f2, b2⟩; rcases one_limb n2 (by omega) with ⟨h, _⟩ | ⟨_, hl, b', off, rfl, hcell⟩; · exact absurd h hK0)
        go_meet
        exact ⟨rfl, Hc.below b2, Hx.below b2, hB.trans (b2.mono hB.size)⟩
  clear Hx hB Hc hUp
  as_aux_lemma =>
    obtain ⟨rfl, Hc, Hx, hB⟩ := hcut
    obtain ⟨wq, hwq⟩ : ∃ wq, wq = wc := ⟨_, rfl⟩
    subst hwq
    go_upto_region 8 with fail
    go_cut [34, 35, 36, 37, 38, 39, 40, 6] (fun _ _ _ _ _ _ _ s6 wx => ∃ z p zo zc, s6 = .pointer (some ⟨p, 0, none⟩) ∧ PlusV ⟨false, xs, ex⟩ ⟨!false, cutL xs ex L, max ex L⟩ z ∧ z.mag.length ≤ 100000 ∧ z.mag.length ≤ zc ∧ (zo = none → zc = 0 ∧ z.mag.length = 0) ∧ Hd wx p z zo zc ∧ Hd wx w.heap.size ⟨neg, xs, ex⟩ ao cap ∧ Below w.heap.size w wx)
    case first =>
      as_aux_lemma =>
        have hc := hle _ _ _ ⟨Hx.row, hr.2⟩ ⟨Hc.row, hco, hcc⟩
        obtain ⟨a0, a1, a2, ar⟩ := id Hx
        obtain ⟨d0, d1, d2, dr⟩ := id Hc
        simp only at a0 a1 a2 d0 d1 d2
        go_wp2_with (go_at_call 111; refine hc.mono ?_; rintro e w2 ⟨⟨zn, zm, ze⟩, zo, zc, rfl, hv, hzl, n2, b2⟩)
        go_meet
        have hB2 : Below w.heap.size w w2 := hB.trans (b2.mono hB.size)
        exact ⟨⟨zn, zm, ze⟩, w2.heap.size, zo, zc, rfl, hv, by simp only at hzl ⊢; omega, n2.2.2, n2.2.1, Hd.newT (d := ⟨zn, zm, ze⟩) n2.1, (Hx.below b2).allocT _, hB2.alloc hB2.size _⟩
    clear Hx hB Hc hle
    obtain ⟨z, p6, zo, zc, rfl, hv, hzl, hzc, hzo, Hz, Hx, hB⟩ := hcut
    obtain ⟨wq, hwq⟩ : ∃ wq, wq = wc := ⟨_, rfl⟩
    subst hwq
    go_upto_region 9 with fail
    go_cut [41, 42, 43, 44, 45, 46, 7] (fun _ _ _ _ _ _ s7 wx => s7 = .int .i64 H ∧ Hd wx w.heap.size ⟨neg, xs, ex⟩ ao cap ∧ Below w.heap.size w wx)
    case first =>
      as_aux_lemma =>
        have hc := fun W o c h1 h2 => hCm z W zo zc o c hv hzl h1 h2
        simp only [HH.out z hv] at hc
        obtain ⟨zn, zm, ze⟩ := z
        obtain ⟨a0, a1, a2, ar⟩ := id Hz
        simp only at a0 a1 a2 hzc hzo hc ar
        have hwr : IntKind.i64.wrap (L - 1) = L - 1 := by rw [IntKind.wrap_i64]; omega
        go_region_held3 (fun w' => w'.cell? ⟨p6, 0, none⟩ = some (.bool zn) ∧ w'.cell? ⟨p6, 1, none⟩ = some (.slice zo zm.length zc) ∧ w'.cell? ⟨p6, 2, none⟩ = some (.int .i64 ze)) (go_keep)
          (first
            | (go_at_call 102; refine (hO1 _).mono ?_; rintro e w2 ⟨o, c, rfl, n2, f2, b2⟩; replace b2 := undrew b2; obtain ⟨q0, q1, q2⟩ := three_on b2 ⟨a0, a1, a2⟩)
            | (go_at_call 78; refine (hc _ _ _ (NS.below ⟨ar, hzo, hzc⟩ b2) n2).mono ?_; rintro e w3 ⟨rfl, b3⟩; obtain ⟨q0, q1, q2⟩ := three_on b3 ⟨q0, q1, q2⟩))
        have b4 := b2.trans (b3.mono b2.size)
        go_wp2
        go_meet
        exact ⟨rfl, Hx.below b4, hB.trans (b4.mono hB.size)⟩
    clear Hx hB Hz hCm hO1 hv hzl hzc hzo
    obtain ⟨rfl, Hx, hB⟩ := hcut
    obtain ⟨wq, hwq⟩ : ∃ wq, wq = wc := ⟨_, rfl⟩
    subst hwq
    clear HH HL hcn hcc hco e1 e2 e3 hn hL
    as_aux_lemma =>
      obtain ⟨a0, a1, a2, ar⟩ := id Hx
      simp only at a0 a1 a2
      clear a1 a2 ar
      have hu : ∀ b, Op.unary .neg (.float .f64 b) = pure (.float .f64 (Op.negFloat .f64 b)) := fun _ => rfl
      obtain ⟨k, hk⟩ : ∃ k : Int, ((K : Nat) : Int) = k := ⟨_, rfl⟩
      have k0 : 0 ≤ k := by omega
      have k1 : k < 9007199254740992 := by omega
      have hq : (k % 2 == 1) = (K % 2 == 1) := by rw [Bool.eq_iff_iff]; simp; omega
      rw [hk]
      by_cases h1 : 0 < H
      · have hN : ((N1 : Nat) : Int) = k + 1 := by have := HK1.out; rw [if_pos (Or.inl h1)] at this; omega
        simp only [hN] at hld
        clear hk hN HK1 hq
        cases neg
        all_goals
          go_wp2_with (go_at_call 112; refine (hld _).mono ?_; rintro e w2 ⟨rfl, rfl⟩)
          go_ret
          exact ⟨by rw [HS.out]; simp, hB⟩
      · by_cases h2 : H = 0
        · subst h2
          by_cases h3 : K % 2 = 1
          · have hN : ((N1 : Nat) : Int) = k + 1 := by have := HK1.out; rw [if_pos (Or.inr ⟨rfl, h3⟩)] at this; omega
            simp only [hN] at hld
            rw [beq_iff_eq.2 h3] at hq
            clear hk hN HK1 h3
            cases neg
            all_goals
              go_wp2_with (go_at_call 112; refine (hld _).mono ?_; rintro e w2 ⟨rfl, rfl⟩)
              go_ret
              exact ⟨by rw [HS.out]; simp, hB⟩
          · have hN : ((N1 : Nat) : Int) = k := by have := HK1.out; rw [if_neg (fun h => h.elim h1 (fun h => h3 h.2))] at this; omega
            simp only [hN] at hld
            rw [beq_eq_false_iff_ne.2 h3] at hq
            clear hk hN HK1 h3
            cases neg
            all_goals
              go_wp2_with (go_at_call 112; refine (hld _).mono ?_; rintro e w2 ⟨rfl, rfl⟩)
              go_ret
              exact ⟨by rw [HS.out]; simp, hB⟩
        · have hN : ((N1 : Nat) : Int) = k := by have := HK1.out; rw [if_neg (fun h => h.elim h1 (fun h => h2 h.1))] at this; omega
          have h3 : (H == 0) = false := beq_eq_false_iff_ne.2 h2
          simp only [hN] at hld
          clear hk hN HK1 hq h2
          cases neg
          all_goals
            go_wp2_with (go_at_call 112; refine (hld _).mono ?_; rintro e w2 ⟨rfl, rfl⟩)
            go_ret
            exact ⟨by rw [HS.out]; simp, hB⟩
end Go.Proofs.YtflbglbhmdpmoaaGreatDoor

namespace Go.Proofs.YtflbglbhmdpmoaaGreatDoor
open Go.RowKit

theorem fl_units (neg : Bool) {k : Nat} (hk : k < 9223372036854775808) : qd (flD (Ieee.double.word neg k)) = if neg then -((val k * 2 ^ kV : Nat) : Int) else ((val k * 2 ^ kV : Nat) : Int) := by
  rw [qd_fl]
  unfold vI
  rw [(word_rung neg hk).1, (word_rung neg hk).2, show pwL = kV from rfl, Int.natCast_mul, Int.natCast_pow]
  cases neg <;> simp [Int.neg_mul]
theorem x_units (neg : Bool) (xs : List Nat) (ex : Int) : qd ⟨neg, xs, ex⟩ = if neg then -((vl xs * 2 ^ (ex + 65536).toNat : Nat) : Int) else ((vl xs * 2 ^ (ex + 65536).toNat : Nat) : Int) := by
  unfold qd
  rw [Int.natCast_mul, Int.natCast_pow]
  cases neg
  · rw [sv_pos]; rfl
  · rw [sv_less, Int.neg_mul]; rfl
theorem sdK_fin (neg : Bool) (A : Nat) {k : Nat} (hk : k < 9218868437227405312) : sdK neg A k = if neg then -sgI ((A : Int) - ((val k * 2 ^ kV : Nat) : Int)) else sgI ((A : Int) - ((val k * 2 ^ kV : Nat) : Int)) := by
  unfold sdK
  rw [if_neg (by omega)]
theorem sg_flip (neg : Bool) (A B : Int) : sgI ((if neg then -A else A) - (if neg then -B else B)) = if neg then -sgI (A - B) else sgI (A - B) := by
  cases neg
  · simp
  · simp only [if_true]
    unfold sgI
    (repeat' split) <;> omega
theorem side_sd (neg : Bool) {xs : List Nat} {ex : Int} {k : Nat} (hk : k < 9218868437227405312) : sgI (qd ⟨neg, xs, ex⟩ - qd (flD (Ieee.double.word neg k))) = sdK neg (vl xs * 2 ^ (ex + 65536).toNat) k := by
  rw [sdK_fin neg _ hk, ← sg_flip, ← x_units, fl_units neg (by omega)]
/-- What Of tells of a number that is not 0. -/
def ofW (neg : Bool) (V : Nat) (ex m : Int) (k : Nat) : Nat := stepF (Ieee.double.word neg k) (sdK neg (V * 2 ^ (ex + 65536).toNat) k) m
set_option maxHeartbeats 2000000 in
set_option maxRecDepth 100000 in
theorem of_any (neg : Bool) (xs : List Nat) (ex m : Int) (k : Nat) (ao : Option Addr) (cap : Nat) (w : World) (hr : NS w ao cap xs) (hL : Lm xs) (hn : xs.length ≤ 10000) (h0 : vl xs ≠ 0) (e1 : -65000 ≤ ex) (e2 : ex ≤ 65000) (e3 : ex + (bl (vl xs) : Int) ≤ 65000) (hN : NearK (vl xs * 2 ^ (ex + 65536).toNat) k) :
    Calls Tryz.prog 43 #[.agg #[.bool neg, .slice ao xs.length cap, .int .i64 ex], .int .i8 m] w fun e w' => e = .returned (.float .f64 (ofW neg (vl xs) ex m k)) ∧ Below w.heap.size w w' := by
  obtain ⟨k', ek, hN'⟩ := nearK_of neg h0 (show -65536 ≤ ex by omega)
  obtain rfl := nearK_uniq hN' hN
  have hk := hN.1
  have hN0 := fun W h => nearest00_any neg xs ex ao cap W h hL hn h0 e1 e2 e3
  rw [ek] at hN0
  have hS0 := fun W (h : NS W ao cap xs) => nsign_any ⟨neg, xs, ex⟩ ao cap W h hL (by simp only; omega)
  have hs0 : (sgI (sv ⟨neg, xs, ex⟩) == 0) = false := by
    have : sv ⟨neg, xs, ex⟩ ≠ 0 := by cases neg <;> (first | rw [sv_pos] | rw [sv_less]) <;> omega
    unfold sgI; rw [Bool.eq_false_iff]; simp only [ne_eq, beq_iff_eq]; split <;> (try split) <;> omega
  obtain ⟨S, hS⟩ : ∃ S, sgI (sv ⟨neg, xs, ex⟩) = S := ⟨_, rfl⟩
  rw [hS] at hs0
  simp only [hS] at hS0
  obtain ⟨wr, ws⟩ := word_rung neg (show k' < 9223372036854775808 by omega)
  have wl : Ieee.double.word neg k' < 18446744073709551616 := word_lt64 neg (by omega)
  have hfin : finB (Ieee.double.word neg k') = decide (k' < 9218868437227405312) := by unfold finB; rw [wr]
  have hc1 := fun W => dfin_all (Ieee.double.word neg k') wl W
  by_cases hi : k' = 9218868437227405312
  · have hg := fun W => great_any (Ieee.double.word neg k') m wl (by unfold nanB; rw [wr]; simp; omega) (by rw [wr]; omega) W
    have he : greatR (Ieee.double.word neg k') m = ofW neg (vl xs) ex m k' := by
      rw [← step_great m wl (by rw [wr, hi])]
      unfold ofW sdK
      rw [if_pos hi, ws]
    rw [he] at hg
    rw [hfin, decide_eq_false (by omega)] at hc1
    generalize ofW neg (vl xs) ex m k' = R at *
    generalize Ieee.double.word neg k' = f at *
    clear he hfin wr ws hN hN' hS h0 e1 e2 e3 hi
    go_enter Tryz.func43, Tryz.ntmps43
    go_wp2_with (first
      | (go_at_call 74; refine (hS0 _ (hr.below ((Below.refl _ _).alloc (Nat.le_refl _) _))).mono ?_; rintro e w1 ⟨rfl, b1⟩; obtain ⟨⟨c0, c1, c2⟩, _, o1⟩ := fbox b1)
      | (go_at_call 75; refine (hN0 _ (hr.below o1)).mono ?_; rintro e w2 ⟨rfl, b2⟩; have o2 := o1.trans (b2.mono o1.size))
      | (go_at_call 53; refine (hc1 _).mono ?_; rintro e w3 ⟨rfl, b3⟩; have o3 := o2.trans (b3.mono o2.size))
      | (go_at_call 76; refine (hg _).mono ?_; rintro e w4 ⟨rfl, rfl⟩))
    go_ret
    exact ⟨rfl, o3⟩
  · have hlt : k' < 9218868437227405312 := by omega
    have hsd := side_sd neg (xs := xs) (ex := ex) hlt
    have hz : k' = 0 → sdK neg (vl xs * 2 ^ (ex + 65536).toNat) k' = if neg then -1 else 1 := by
      intro h; subst h
      rw [sdK_fin neg _ (by omega), val_zero, Nat.zero_mul]
      have : 0 < vl xs * 2 ^ (ex + 65536).toNat := Nat.mul_pos (Nat.pos_of_ne_zero h0) (Nat.two_pow_pos _)
      rw [sgI_pos (by omega)]
    have hsi := fun W => side_all (Ieee.double.word neg k') (sdK neg (vl xs * 2 ^ (ex + 65536).toNat) k') m wl (by rw [hfin]; simpa using hlt) (by rw [wr, ws]; exact hz) W
    rw [show stepF (Ieee.double.word neg k') (sdK neg (vl xs * 2 ^ (ex + 65536).toNat) k') m = ofW neg (vl xs) ex m k' from rfl] at hsi
    have hX := fun W => exact00_any (Ieee.double.word neg k') wl W
    have hue : up (rung (Ieee.double.word neg k')) ≤ 2046 := by rw [wr]; unfold up; split <;> omega
    have hCm := fun W o c (h1 : NS W ao cap xs) (h2 : NS W o c (flD (Ieee.double.word neg k')).mag) => compare_any ⟨neg, xs, ex⟩ (flD (Ieee.double.word neg k')) ao o cap c W h1 h2 hL (lo_lm _) (by simp only; omega) (by
      show (lo _).length ≤ _
      rw [lo_length]
      exact Nat.le_trans (nl_le (n := 1) (by have := mg_lt53 (rung (Ieee.double.word neg k')); omega)) (by omega)) (by simp only; omega) (by simp only; omega) (by unfold flD; simp only; omega) (by unfold flD; simp only; omega)
    simp only [hsd] at hCm
    rw [hfin, decide_eq_true hlt] at hc1
    generalize sdK neg (vl xs * 2 ^ (ex + 65536).toNat) k' = r at *
    generalize ofW neg (vl xs) ex m k' = R at *
    generalize hfd : flD (Ieee.double.word neg k') = D at *
    generalize Ieee.double.word neg k' = f at *
    obtain ⟨dn, dm, de⟩ := D
    simp only at hCm hX
    clear hfin wr ws hN hN' hS h0 e1 e2 e3 hi hz hue hsd hlt hfd
    go_enter Tryz.func43, Tryz.ntmps43
    go_upto_region 6 with (first
      | (go_at_call 74; refine (hS0 _ (hr.below ((Below.refl _ _).alloc (Nat.le_refl _) _))).mono ?_; rintro e w1 ⟨rfl, b1⟩; obtain ⟨⟨c0, c1, c2⟩, _, o1⟩ := fbox b1)
      | (go_at_call 75; refine (hN0 _ (hr.below o1)).mono ?_; rintro e w2 ⟨rfl, b2⟩; have o2 := o1.trans (b2.mono o1.size); obtain ⟨d0, d1, d2⟩ := three_on b2 ⟨c0, c1, c2⟩)
      | (go_at_call 53; refine (hc1 _).mono ?_; rintro e w3 ⟨rfl, b3⟩; have o3 := o2.trans (b3.mono o2.size); obtain ⟨f0, f1, f2⟩ := three_on b3 ⟨d0, d1, d2⟩))
    clear c0 c1 c2 d0 d1 d2
    go_region_held3 (fun w' => w'.cell? ⟨w.heap.size, 0, none⟩ = some (.bool neg) ∧ w'.cell? ⟨w.heap.size, 1, none⟩ = some (.slice ao xs.length cap) ∧ w'.cell? ⟨w.heap.size, 2, none⟩ = some (.int .i64 ex)) (go_keep)
      (first
        | (go_at_call 40; refine (hX _).mono ?_; rintro e w4 ⟨o, c, rfl, n4, g4, b4⟩; replace b4 := undrew b4; have o4 := o3.trans (b4.mono o3.size); obtain ⟨q0, q1, q2⟩ := three_on b4 ⟨f0, f1, f2⟩)
        | (go_at_call 78; refine (hCm _ _ _ (hr.below o4) n4).mono ?_; rintro e w5 ⟨rfl, b5⟩; have o5 := o4.trans (b5.mono o4.size); obtain ⟨q0, q1, q2⟩ := three_on b5 ⟨q0, q1, q2⟩)
        | (go_at_call 77; refine (hsi _).mono ?_; rintro e w6 ⟨rfl, rfl⟩))
    go_wp2
    go_ret
    exact ⟨rfl, o5⟩
end Go.Proofs.YtflbglbhmdpmoaaGreatDoor
