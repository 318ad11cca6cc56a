/- What SameDyad, cmp.Compare and cmpSizes answer. -/
import Derived.Test.YtokfkooffbihcaaDoorDl
import Derived.Deep.DeepCutAuto
namespace Go.Proofs.YtokfkooffbihcaaDoor
open Go.RowKit

/-- Which of two numbers is greater. -/
def cmpI (x y : Int) : Int := if x < y then -1 else if y < x then 1 else 0
theorem cmpI_bd (x y : Int) : -1 ≤ cmpI x y ∧ cmpI x y ≤ 1 := by unfold cmpI; (repeat' split) <;> omega
/-- A dyad's size in units of 2^-65536. -/
def sz (d : Dy) : Nat := vl d.mag * 2 ^ (d.exp + 65536).toNat
theorem bl_mono {x y : Nat} (h : bl x < bl y) : x < y := Nat.lt_of_not_le fun hle => by
  have := bl_le_iff.2 (Nat.lt_of_le_of_lt hle (bl_le_iff.1 (Nat.le_refl (bl x))))
  omega
theorem bl_sz {d : Dy} (h0 : vl d.mag ≠ 0) (he : -65536 ≤ d.exp) : (bl (sz d) : Int) = bl (vl d.mag) + d.exp + 65536 := by
  unfold sz; rw [bl_mul_pow h0]; omega
/-- A size, its highest bit at the top of n limbs. -/
def upA (v n : Nat) : Nat := v * 2 ^ (64 * n - bl v)
theorem upA_lt {v n : Nat} (h : bl v ≤ 64 * n) : upA v n < 2 ^ (64 * n) := by
  unfold upA
  have h1 : v < 2 ^ bl v := bl_le_iff.1 (Nat.le_refl _)
  calc v * 2 ^ (64 * n - bl v) < 2 ^ bl v * 2 ^ (64 * n - bl v) := Nat.mul_lt_mul_of_pos_right h1 (Nat.two_pow_pos _)
    _ = 2 ^ (64 * n) := by rw [← Nat.pow_add, show bl v + (64 * n - bl v) = 64 * n by omega]
theorem win_top {v n i : Nat} (h : bl v ≤ 64 * n) (hi : i < n) : win v ((bl v : Int) - ((i : Int) + 1) * 64) = upA v n / 2 ^ (64 * (n - 1 - i)) % 18446744073709551616 := by
  have := win_up v (64 * n - bl v) (n - 1 - i)
  unfold upA
  rw [← this]
  congr 1
  omega
theorem upA_sz {d : Dy} {n T : Nat} (_h0 : vl d.mag ≠ 0) (he : -65536 ≤ d.exp) (h : bl (vl d.mag) ≤ 64 * n) (hT : (T : Int) = bl (vl d.mag) + d.exp + 65536) : upA (vl d.mag) n * 2 ^ T = sz d * 2 ^ (64 * n) := by
  unfold upA sz
  rw [Nat.mul_assoc, ← Nat.pow_add, Nat.mul_assoc, ← Nat.pow_add, show 64 * n - bl (vl d.mag) + T = (d.exp + 65536).toNat + 64 * n by omega]
/-- Where the tops are one: which is greater is told by the sizes laid at the top. -/
theorem cmp_top {a b : Dy} {n : Nat} (a0 : vl a.mag ≠ 0) (b0 : vl b.mag ≠ 0) (ea : -65536 ≤ a.exp) (eb : -65536 ≤ b.exp) (ha : bl (vl a.mag) ≤ 64 * n) (hb : bl (vl b.mag) ≤ 64 * n)
    (ht : (bl (vl a.mag) : Int) + a.exp = bl (vl b.mag) + b.exp) :
    (upA (vl a.mag) n < upA (vl b.mag) n → sz a < sz b) ∧ (upA (vl b.mag) n < upA (vl a.mag) n → sz b < sz a) ∧ (upA (vl a.mag) n = upA (vl b.mag) n → sz a = sz b) := by
  have e1 := upA_sz (T := (bl (vl a.mag) + a.exp + 65536 : Int).toNat) a0 ea ha (by omega)
  have e2 := upA_sz (T := (bl (vl a.mag) + a.exp + 65536 : Int).toNat) b0 eb hb (by omega)
  generalize (bl (vl a.mag) + a.exp + 65536 : Int).toNat = T at *
  have hp := Nat.two_pow_pos T
  have hq := Nat.two_pow_pos (64 * n)
  refine ⟨fun h => ?_, fun h => ?_, fun h => ?_⟩
  · have := Nat.mul_lt_mul_of_pos_right h hp
    rw [e1, e2] at this
    exact Nat.lt_of_mul_lt_mul_right this
  · have := Nat.mul_lt_mul_of_pos_right h hp
    rw [e1, e2] at this
    exact Nat.lt_of_mul_lt_mul_right this
  · rw [h, e2] at e1
    exact Nat.eq_of_mul_eq_mul_right hq e1.symm

set_option maxHeartbeats 400000 in
theorem sameDyad_any (a b : Dy) (ao bo : Option Addr) (cap bcap : Nat) (w : World) (hr : LRow w ao a.mag) (hs : LRow w bo b.mag) (hn : a.mag.length ≤ 1125899906842624) :
    Calls Tryd.prog 8 #[.agg #[.bool a.neg, .slice ao a.mag.length cap, .int .i64 a.exp], .agg #[.bool b.neg, .slice bo b.mag.length bcap, .int .i64 b.exp]] w fun e w' => e = .returned (.bool (eqB a b)) ∧ Below w.heap.size w w' := by
  obtain ⟨n1, m1, e1⟩ := a
  obtain ⟨n2, m2, e2⟩ := b
  simp only at *
  have hend : ∀ o1 o2, Below w.heap.size w ((w.alloc o1).alloc o2) := fun o1 o2 => (((Below.refl _ _).alloc (Nat.le_refl _) o1).alloc (by simp) o2)
  by_cases hn1 : n1 = n2
  · have b1 : (n1 == n2) = true := by simp [hn1]
    by_cases hm : m1 = m2
    · have hd : decide (m1 = m2) = true := decide_eq_true hm
      have HE : Hid (eqB ⟨n1, m1, e1⟩ ⟨n2, m2, e2⟩ = (e1 == e2)) := (show _ = _ by rw [Bool.eq_iff_iff, eqB_iff]; simp [hn1, hm])
      clear hm hn1
      go_enter Tryd.func8, Tryd.ntmps8
      go_wp2_with (go_at_call 26; refine (sameLimbs_any _ _ _ _ _ _ _ ((hr.alloc _).alloc _) ((hs.alloc _).alloc _) hn).mono ?_; rintro e w1 ⟨rfl, hb⟩; obtain ⟨⟨c0, c1, c2⟩, ⟨d0, d1, d2⟩, _⟩ := box2 hb)
      go_ret
      exact ⟨retB HE.out.symm, box2_old hb⟩
    · have hd : decide (m1 = m2) = false := decide_eq_false hm
      have HE : Hid (eqB ⟨n1, m1, e1⟩ ⟨n2, m2, e2⟩ = false) := (show _ = _ by rw [Bool.eq_false_iff]; intro h; have := eqB_iff.1 h; simp [hm] at this)
      clear hm hn1
      go_enter Tryd.func8, Tryd.ntmps8
      go_wp2_with (go_at_call 26; refine (sameLimbs_any _ _ _ _ _ _ _ ((hr.alloc _).alloc _) ((hs.alloc _).alloc _) hn).mono ?_; rintro e w1 ⟨rfl, hb⟩; obtain ⟨⟨c0, c1, c2⟩, ⟨d0, d1, d2⟩, _⟩ := box2 hb)
      go_ret
      exact ⟨retB HE.out.symm, box2_old hb⟩
  · have b1 : (n1 == n2) = false := by simp [hn1]
    have HE : Hid (eqB ⟨n1, m1, e1⟩ ⟨n2, m2, e2⟩ = false) := (show _ = _ by rw [Bool.eq_false_iff]; intro h; have := eqB_iff.1 h; simp [hn1] at this)
    clear hn1
    go_enter Tryd.func8, Tryd.ntmps8
    go_wp2
    go_ret
    exact ⟨retB HE.out.symm, hend _ _⟩

set_option maxHeartbeats 400000 in
theorem cmpInt_any (x y : Int) (w : World) : Calls Tryd.prog 24 #[.int .i64 x, .int .i64 y] w fun e w' => e = .returned (.int .i64 (cmpI x y)) ∧ w' = w := by
  by_cases h1 : x < y
  · have HE : Hid (cmpI x y = -1) := (show _ = _ by unfold cmpI; rw [if_pos h1])
    go_enter Tryd.func24, Tryd.ntmps24
    go_wp2
    go_ret
    exact ⟨retI HE.out.symm, rfl⟩
  · by_cases h2 : y < x
    · have HE : Hid (cmpI x y = 1) := (show _ = _ by unfold cmpI; rw [if_neg h1, if_pos h2])
      go_enter Tryd.func24, Tryd.ntmps24
      go_wp2
      go_ret
      exact ⟨retI HE.out.symm, rfl⟩
    · have HE : Hid (cmpI x y = 0) := (show _ = _ by unfold cmpI; rw [if_neg h1, if_neg h2])
      go_enter Tryd.func24, Tryd.ntmps24
      go_wp2
      go_ret
      exact ⟨retI HE.out.symm, rfl⟩
set_option maxHeartbeats 400000 in
theorem cmpU_any (x y : Int) (w : World) : Calls Tryd.prog 43 #[.int .u64 x, .int .u64 y] w fun e w' => e = .returned (.int .i64 (cmpI x y)) ∧ w' = w := by
  by_cases h1 : x < y
  · have HE : Hid (cmpI x y = -1) := (show _ = _ by unfold cmpI; rw [if_pos h1])
    go_enter Tryd.func43, Tryd.ntmps43
    go_wp2
    go_ret
    exact ⟨retI HE.out.symm, rfl⟩
  · by_cases h2 : y < x
    · have HE : Hid (cmpI x y = 1) := (show _ = _ by unfold cmpI; rw [if_neg h1, if_pos h2])
      go_enter Tryd.func43, Tryd.ntmps43
      go_wp2
      go_ret
      exact ⟨retI HE.out.symm, rfl⟩
    · have HE : Hid (cmpI x y = 0) := (show _ = _ by unfold cmpI; rw [if_neg h1, if_neg h2])
      go_enter Tryd.func43, Tryd.ntmps43
      go_wp2
      go_ret
      exact ⟨retI HE.out.symm, rfl⟩
end Go.Proofs.YtokfkooffbihcaaDoor
