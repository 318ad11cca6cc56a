/- What the document's DotExact (layer 6) answers. -/
import Derived.Test.YtfhejejfeffdcaaDoorRA
import Derived.Test.YtfhejejfeffdcaaDoorU9
import Derived.Test.YtfhejejfeffdcaaDoorZ7
namespace Go.Proofs.YtfhejejfeffdcaaDoor
open Go.RowKit

/-- The sum of the first k floats, in units of 2^-1074. -/
def sI (xs : List Nat) : Nat → Int
  | 0 => 0
  | k + 1 => sI xs k + vI (xs.getD k 0)
/-- .. as a right dyad. -/
def sD (xs : List Nat) (k : Nat) : Dy := (nrm (sI xs k) (-1074)).1
/-- The exact sum rounded. -/
def exW (xs : List Nat) (m : Int) : Nat := rndW (sD xs xs.length) m
theorem fin_at {xs : List Nat} (h : xs.all finB = true) {k : Nat} (hk : k < xs.length) : finB (xs.getD k 0) = true := by
  rw [getD_at hk]
  exact List.all_eq_true.1 h _ (List.getElem_mem hk)
theorem sI_lt {xs : List Nat} (h : xs.all finB = true) {V : Nat} (hV : V = 2098) : ∀ k, k ≤ xs.length → (sI xs k).natAbs ≤ k * 2 ^ V
  | 0, _ => by simp [sI]
  | k + 1, hk => by
    have i1 := sI_lt h hV k (by omega)
    have i2 := vI_lt (fin_at h (k := k) (by omega)) hV
    have i3 := Int.natAbs_add_le (sI xs k) (vI (xs.getD k 0))
    rw [sI, Nat.add_mul, Nat.one_mul]
    omega
theorem sI_bl {xs : List Nat} (h : xs.all finB = true) (hn : xs.length ≤ 1125899906842624) {k : Nat} (hk : k ≤ xs.length) : bl (sI xs k).natAbs ≤ 3000 := by
  obtain ⟨V, hV⟩ : ∃ V : Nat, V = 2098 := ⟨_, rfl⟩
  obtain ⟨E, hE⟩ : ∃ E : Nat, E = 902 := ⟨_, rfl⟩
  have h1 := sI_lt h hV k hk
  refine bl_le_iff.2 (Nat.lt_of_le_of_lt h1 ?_)
  calc k * 2 ^ V < 2 ^ E * 2 ^ V := (Nat.mul_lt_mul_right (Nat.two_pow_pos _)).2 (Nat.lt_of_lt_of_le (show k < 2 ^ 51 by omega) (Nat.pow_le_pow_right (by omega) (by omega)))
    _ = 2 ^ (E + V) := by rw [← Nat.pow_add]
    _ = 2 ^ 3000 := by rw [show E + V = 3000 by omega]
theorem sD_told {xs : List Nat} (h : xs.all finB = true) (hn : xs.length ≤ 1125899906842624) {k : Nat} (hk : k ≤ xs.length) : nrm (sI xs k) (-1074) = (sD xs k, 0) := by
  have := nrm_told (X := sI xs k) (e := -1074) (by have := sI_bl h hn hk; omega) (by omega) (by omega)
  unfold sD
  rw [← this]
theorem sD_qd {xs : List Nat} (h : xs.all finB = true) (hn : xs.length ≤ 1125899906842624) {k : Nat} (hk : k ≤ xs.length) {K : Nat} (hK : K = 64462) : rightB (sD xs k) = true ∧ Lm (sD xs k).mag ∧ qd (sD xs k) = sI xs k * 2 ^ K := by
  have ht := sD_told h hn hk
  have h2 : (nrm (sI xs k) (-1074)).2 = 0 := by rw [ht]
  obtain ⟨r1, r2⟩ := nrm_ok h2
  have r3 := r2 (-65536) (by omega) (by omega)
  rw [ht] at r1 r3
  refine ⟨r1, nrm_lm _ _, ?_⟩
  simp only at r3
  unfold qd
  rw [show (sD xs k).exp + 65536 = (sD xs k).exp - -65536 by omega, r3, hK]
  rfl
theorem sD_add {xs : List Nat} (h : xs.all finB = true) (hn : xs.length ≤ 1125899906842624) {k : Nat} (hk : k < xs.length) : addD (sD xs k) (ofD (xs.getD k 0)).1 = (sD xs (k + 1), 0) := by
  obtain ⟨K, hK⟩ : ∃ K : Nat, K = 64462 := ⟨_, rfl⟩
  obtain ⟨a1, a2, a3⟩ := sD_qd h hn (show k ≤ xs.length by omega) hK
  obtain ⟨_, b2, _, b4⟩ := fq_qd (fin_at h hk) hK
  unfold addD
  rw [a1, b2]
  simp only [Bool.and_self, if_true]
  rw [a3, b4, ← Int.add_mul, show sI xs k + vI (xs.getD k 0) = sI xs (k + 1) from rfl, shift_nrm, hK, ← sD_told h hn hk]
  rfl
set_option maxHeartbeats 1000000 in
theorem exact_any (xs : List Nat) (ao : Option Addr) (cap : Nat) (m : Int) (w : World) (hT : TabW w) (hr : GRow w ao xs) (hF : FW xs) (hn : xs.length ≤ 1125899906842624) :
    Calls Tryd.prog 5 #[.slice ao xs.length cap, .int .i8 m] w fun e w' => e = .returned (.tuple #[.float .f64 (if xs.all finB then exW xs m else 0), .int .i64 (if xs.all finB then 0 else 5)]) ∧ Below w.heap.size w w' := by
  have ca := fun w h => allfin_any xs ao cap w h hF hn
  cases hf : xs.all finB
  · rw [hf] at ca
    simp only [Bool.false_eq_true, if_false]
    go_enter Tryd.func5, Tryd.ntmps5
    go_wp2_with (first
      | (go_at_call 17; refine (ca _ (hr.below ((Below.refl _ _).alloc (Nat.le_refl _) _))).mono ?_; rintro e w' ⟨rfl, rfl⟩))
    exact bodyPost_ret (v := .tuple #[.float .f64 0, .int .i64 5]) (by simp [results, Tryd.results5, go_sem]) rfl ⟨rfl, (Below.refl _ _).alloc (Nat.le_refl _) _⟩
  · rw [hf] at ca
    simp only [if_true]
    have ci := fun B w h1 h2 h3 => innone_any xs ao cap B m (fun k => (ofD (xs.getD k 0)).1) (sD xs) w h1 h2 hF hn h3
      (fun k hk => by
        obtain ⟨b1, _, b3, _⟩ := fq_qd (fin_at hf hk) (K := 64462) rfl
        exact ⟨by rw [← b1], b3⟩) (by unfold sD sI nrm; rw [if_pos rfl]) (fun k hk => sD_add hf hn hk) (fun k _ => nrm_lm _ _) (sD_qd hf hn (Nat.le_refl _) (K := 64462) rfl).1
    rw [show rndW (sD xs xs.length) m = exW xs m from rfl] at ci
    generalize exW xs m = R at *
    go_enter Tryd.func5, Tryd.ntmps5
    go_wp2_with (first
      | (go_at_call 17; refine (ca _ (hr.below ((Below.refl _ _).alloc (Nat.le_refl _) _))).mono ?_; rintro e w' ⟨rfl, rfl⟩)
      | (go_at_call 18; refine (ci _ _ (tabW_alloc hT _) (hr.below ((Below.refl _ _).alloc (Nat.le_refl _) _)) (by go_simp)).mono ?_; rintro e w2 ⟨rfl, b2⟩))
    exact bodyPost_ret (v := .tuple #[.float .f64 R, .int .i64 0]) (by simp [results, Tryd.results5, go_sem]) rfl ⟨rfl, ((Below.refl _ _).alloc (Nat.le_refl _) _).trans (b2.mono (by go_simp))⟩
end Go.Proofs.YtfhejejfeffdcaaDoor

namespace Go.Proofs.YtfhejejfeffdcaaDoor
open Go.RowKit

/-- The sum of the first k products, in units of 2^-2148. -/
def dI (xs ys : List Nat) : Nat → Int
  | 0 => 0
  | k + 1 => dI xs ys k + vI (xs.getD k 0) * vI (ys.getD k 0)
/-- The exact sum of products rounded. -/
def dxW (xs ys : List Nat) (m : Int) : Nat := rndW (dz (dI xs ys xs.length)) m
theorem dI_lt {xs ys : List Nat} (h : xs.all finB = true) (g : ys.all finB = true) (hl : ys.length = xs.length) {V : Nat} (hV : V = 2098) : ∀ k, k ≤ xs.length → (dI xs ys k).natAbs ≤ k * 2 ^ (V + V)
  | 0, _ => by simp [dI]
  | k + 1, hk => by
    have i1 := dI_lt h g hl hV k (by omega)
    have i2 := vI_lt (fin_at h (k := k) (by omega)) hV
    have i3 := vI_lt (fin_at g (k := k) (by omega)) hV
    have i4 : (vI (xs.getD k 0) * vI (ys.getD k 0)).natAbs ≤ 2 ^ (V + V) := by
      rw [Int.natAbs_mul, Nat.pow_add]
      exact Nat.mul_le_mul (Nat.le_of_lt i2) (Nat.le_of_lt i3)
    have i5 := Int.natAbs_add_le (dI xs ys k) (vI (xs.getD k 0) * vI (ys.getD k 0))
    rw [dI, Nat.add_mul, Nat.one_mul]
    omega
theorem dI_bl {xs ys : List Nat} (h : xs.all finB = true) (g : ys.all finB = true) (hl : ys.length = xs.length) (hn : xs.length ≤ 1125899906842624) {k : Nat} (hk : k ≤ xs.length) : bl (dI xs ys k).natAbs ≤ 5000 := by
  obtain ⟨V, hV⟩ : ∃ V : Nat, V = 2098 := ⟨_, rfl⟩
  obtain ⟨E, hE⟩ : ∃ E : Nat, E = 804 := ⟨_, rfl⟩
  have h1 := dI_lt h g hl hV k hk
  refine bl_le_iff.2 (Nat.lt_of_le_of_lt h1 ?_)
  calc k * 2 ^ (V + V) < 2 ^ E * 2 ^ (V + V) := (Nat.mul_lt_mul_right (Nat.two_pow_pos _)).2 (Nat.lt_of_lt_of_le (show k < 2 ^ 51 by omega) (Nat.pow_le_pow_right (by omega) (by omega)))
    _ = 2 ^ (E + (V + V)) := by rw [← Nat.pow_add]
    _ = 2 ^ 5000 := by rw [show E + (V + V) = 5000 by omega]
/-- Sums of exact numbers in units of 2^-2148. -/
theorem dz_add {X Y : Int} (h1 : bl X.natAbs ≤ 16384) (h2 : bl Y.natAbs ≤ 16384) (h3 : bl (X + Y).natAbs ≤ 16384) : addD (dz X) (dz Y) = (dz (X + Y), 0) := by
  obtain ⟨K, hK⟩ : ∃ K : Nat, K = 63388 := ⟨_, rfl⟩
  obtain ⟨r1, _, q1⟩ := dz_qd h1 hK
  obtain ⟨r2, _, q2⟩ := dz_qd h2 hK
  unfold addD
  rw [r1, r2, q1, q2]
  simp only [Bool.and_self, if_true]
  rw [← Int.add_mul, shift_nrm, show (-65536 : Int) + (K : Nat) = -2148 by omega]
  exact dz_told h3
theorem dt_add {xs ys : List Nat} (h : xs.all finB = true) (g : ys.all finB = true) (hl : ys.length = xs.length) (hn : xs.length ≤ 1125899906842624) {k : Nat} (hk : k < xs.length) : addD (dz (dI xs ys k)) (dz (vI (xs.getD k 0) * vI (ys.getD k 0))) = (dz (dI xs ys (k + 1)), 0) := by
  have b1 := dI_bl h g hl hn (Nat.le_of_lt hk)
  have b2 := (exX_lt (fin_at h hk) (fin_at g (k := k) (by omega)) (fin_at h hk)).1
  have b3 := dI_bl h g hl hn (show k + 1 ≤ xs.length from hk)
  exact dz_add (by omega) b2 (show bl (dI xs ys (k + 1)).natAbs ≤ 16384 by omega)
theorem dt_qd {xs ys : List Nat} (h : xs.all finB = true) (g : ys.all finB = true) (hl : ys.length = xs.length) (hn : xs.length ≤ 1125899906842624) {k : Nat} (hk : k ≤ xs.length) {K : Nat} (hK : K = 63388) : rightB (dz (dI xs ys k)) = true ∧ Lm (dz (dI xs ys k)).mag ∧ qd (dz (dI xs ys k)) = dI xs ys k * 2 ^ K :=
  dz_qd (by have := dI_bl h g hl hn hk; omega) hK
theorem dt_zero : dz 0 = dy0 := rfl
end Go.Proofs.YtfhejejfeffdcaaDoor

namespace Go.Proofs.YtfhejejfeffdcaaDoor
open Go.RowKit

/-- A number of the sum of the first k floats, as the document holds it. -/
def SumX (xs : List Nat) (k : Nat) (z : Dy) : Prop := Lm z.mag ∧ z.mag = lo (vl z.mag) ∧ -1074 ≤ z.exp ∧ z.exp ≤ 972 ∧ sv z * 2 ^ (z.exp + 1074).toNat = sI xs k
theorem sumX_len {xs : List Nat} (h : xs.all finB = true) (hn : xs.length ≤ 1125899906842624) {k : Nat} (hk : k ≤ xs.length) {z : Dy} (hz : SumX xs k z) : z.mag.length ≤ 50 ∧ bl (vl z.mag) ≤ 3000 := by
  obtain ⟨_, h2, _, _, h5⟩ := hz
  have hb := sI_bl h hn hk
  have : bl (vl z.mag) ≤ 3000 := by
    refine bl_le_iff.2 ?_
    have h6 := bl_le_iff.1 hb
    rw [← h5, Int.natAbs_mul, sv_abs] at h6
    have h7 : 1 ≤ ((2 : Int) ^ (z.exp + 1074).toNat).natAbs := by
      have := pow_pos_int (z.exp + 1074).toNat
      omega
    have h8 := Nat.mul_le_mul_left (vl z.mag) h7
    omega
  refine ⟨?_, this⟩
  rw [h2, lo_length]
  unfold nl
  omega
theorem fl_sum {x : Nat} (hf : finB x = true) : Lm (flD x).mag ∧ (flD x).mag = lo (vl (flD x).mag) ∧ -1074 ≤ (flD x).exp ∧ (flD x).exp ≤ 972 ∧ sv (flD x) * 2 ^ ((flD x).exp + 1074).toNat = vI x := by
  have hu : up (rung x) ≤ 2046 := by
    have := fin_rung hf
    unfold up; split <;> omega
  have e : ((flD x).exp + 1074).toNat = up (rung x) := by unfold flD; simp only; omega
  refine ⟨lo_lm _, ?_, ?_, ?_, by rw [e]; exact sv_fl x⟩
  · show lo _ = lo (vl (lo _))
    rw [vl_lo]
  · unfold flD; simp only; omega
  · unfold flD; simp only; omega
theorem sumX_step {xs : List Nat} {k x : Nat} (ex : xs.getD k 0 = x) (hf : finB x = true) {z y : Dy} (hz : SumX xs k z) (hp : PlusV z (flD x) y) (ht : y.mag = lo (vl y.mag) ∨ y.mag = z.mag ∨ y.mag = (flD x).mag) : SumX xs (k + 1) y := by
  obtain ⟨z1, z2, z3, z4, z5⟩ := hz
  obtain ⟨f1, f2, f3, f4, f5⟩ := fl_sum hf
  obtain ⟨p1, p2, p3⟩ := hp
  refine ⟨p1, ?_, by omega, by omega, ?_⟩
  · rcases ht with h | h | h
    · exact h
    · rw [h]; exact z2
    · rw [h]; exact f2
  · have := p3 (-1074) z3 f3
    rw [show y.exp - -1074 = y.exp + 1074 by omega, show z.exp - -1074 = z.exp + 1074 by omega, show (flD x).exp - -1074 = (flD x).exp + 1074 by omega, z5, f5] at this
    rw [this, sI, ex]
end Go.Proofs.YtfhejejfeffdcaaDoor

namespace Go.Proofs.YtfhejejfeffdcaaDoor
open Go.RowKit

/-- The limbs lie behind the box p. -/
def Bhd (p : Nat) (zo : Option Addr) (n : Nat) : Prop := ∀ b off, zo = some ⟨b, off, none⟩ → n ≠ 0 → p < b
theorem Bhd.of_frs {p B n : Nat} {zo : Option Addr} (h : Frs B zo) (hp : p < B) : Bhd p zo n := fun b off e _ => by have h1 : B ≤ b := h _ e; omega
theorem put3h {w : World} {p : Nat} {a : Option Addr} {c : Nat} {D E : Dy} {ao : Option Addr} {cap : Nat} (h : Hd w p D ao cap) (hz : Fz w p) (hr : LRow w a E.mag) (hf : Bhd p a E.mag.length) :
    Hd (((w.setCell ⟨p, 0, none⟩ (.bool E.neg)).setCell ⟨p, 1, none⟩ (.slice a E.mag.length c)).setCell ⟨p, 2, none⟩ (.int .i64 E.exp)) p E a c ∧ Fz (((w.setCell ⟨p, 0, none⟩ (.bool E.neg)).setCell ⟨p, 1, none⟩ (.slice a E.mag.length c)).setCell ⟨p, 2, none⟩ (.int .i64 E.exp)) p := by
  have s0 : (w.setCell ⟨p, 0, none⟩ (.bool E.neg)).cell? ⟨p, 0, none⟩ = some (.bool E.neg) := World.cell?_setCell_same w _ _ h.c0
  have s1 : (w.setCell ⟨p, 0, none⟩ (.bool E.neg)).cell? ⟨p, 1, none⟩ = some (.slice ao D.mag.length cap) := (World.cell?_setCell_other w _ _ _ (by simp)).trans h.c1
  have s2 : (w.setCell ⟨p, 0, none⟩ (.bool E.neg)).cell? ⟨p, 2, none⟩ = some (.int .i64 D.exp) := (World.cell?_setCell_other w _ _ _ (by simp)).trans h.c2
  have t0 := (World.cell?_setCell_other _ ⟨p, 1, none⟩ ⟨p, 0, none⟩ (.slice a E.mag.length c) (by simp)).trans s0
  have t1 := World.cell?_setCell_same _ _ (.slice a E.mag.length c) s1
  have t2 := (World.cell?_setCell_other _ ⟨p, 1, none⟩ ⟨p, 2, none⟩ (.slice a E.mag.length c) (by simp)).trans s2
  have hne : ∀ b off, a = some ⟨b, off, none⟩ → E.mag.length ≠ 0 → b ≠ p := fun b off e h0 => by have := hf b off e h0; omega
  refine ⟨⟨(World.cell?_setCell_other _ _ _ _ (by simp)).trans t0, (World.cell?_setCell_other _ _ _ _ (by simp)).trans t1, World.cell?_setCell_same _ _ _ t2, ((hr.setCell _ hne).setCell _ hne).setCell _ hne⟩, ?_⟩
  obtain ⟨f0, f1, f2⟩ := hz
  refine ⟨?_, ?_, ?_⟩ <;> simp [go_sem, f0, f1, f2]
/-- What Exact tells of the whole sum: as the program's. -/
theorem of_sum {xs : List Nat} (h : xs.all finB = true) (hn : xs.length ≤ 1125899906842624) {z : Dy} (hz : SumX xs xs.length z) (m : Int) (h0 : vl z.mag ≠ 0) : ∃ k, NearK (vl z.mag * 2 ^ (z.exp + 65536).toNat) k ∧ ofW z.neg (vl z.mag) z.exp m k = exW xs m := by
  obtain ⟨K, hK⟩ : ∃ K : Nat, K = 64462 := ⟨_, rfl⟩
  obtain ⟨r1, r2, r3⟩ := sD_qd h hn (Nat.le_refl xs.length) hK
  obtain ⟨z1, z2, z3, z4, z5⟩ := hz
  have hq : qd z = sI xs xs.length * 2 ^ K := by
    unfold qd
    rw [← z5, Int.mul_assoc, ← pow_add_int, show (z.exp + 1074).toNat + K = (z.exp + 65536).toNat by omega]
  have hqq : qd (sD xs xs.length) = qd z := by rw [r3, hq]
  have hqz : qd z = if z.neg then -((vl z.mag * 2 ^ (z.exp + 65536).toNat : Nat) : Int) else ((vl z.mag * 2 ^ (z.exp + 65536).toNat : Nat) : Int) := x_units z.neg z.mag z.exp
  have hA : 0 < vl z.mag * 2 ^ (z.exp + 65536).toNat := Nat.mul_pos (Nat.pos_of_ne_zero h0) (Nat.two_pow_pos _)
  have hab : (qd z).natAbs = vl z.mag * 2 ^ (z.exp + 65536).toNat := by
    rw [hqz]
    generalize vl z.mag * 2 ^ (z.exp + 65536).toNat = A
    cases z.neg <;> simp
  have hn0 : (sD xs xs.length).mag.length ≠ 0 := by
    intro hl
    have e1 : sv (sD xs xs.length) = 0 := sv_zero (by rw [List.eq_nil_of_length_eq_zero hl]; rfl)
    have e2 : qd (sD xs xs.length) = 0 := by unfold qd; rw [e1, Int.zero_mul]
    rw [hqq] at e2
    rw [e2] at hab
    simp at hab
    omega
  obtain ⟨k, k1, k2, k3, k4⟩ := rnd_step (sD xs xs.length) m r2 r1 hn0
  rw [hqq] at k1 k2 k4
  have hneg : (sD xs xs.length).neg = z.neg := by
    rw [k2, hqz]
    generalize vl z.mag * 2 ^ (z.exp + 65536).toNat = A at hA
    cases z.neg <;> first | (simp; done) | (simp; omega)
  rw [hab] at k1 k4
  refine ⟨k, k1, ?_⟩
  unfold exW ofW
  rw [k4, hneg]
theorem of_none {xs : List Nat} {z : Dy} (hz : SumX xs xs.length z) (m : Int) (h0 : vl z.mag = 0) : exW xs m = 0 := by
  obtain ⟨_, _, _, _, z5⟩ := hz
  rw [sv_zero h0, Int.zero_mul] at z5
  unfold exW sD
  rw [← z5]
  rfl
end Go.Proofs.YtfhejejfeffdcaaDoor

namespace Go.Proofs.YtfhejejfeffdcaaDoor
open Go.RowKit

end Go.Proofs.YtfhejejfeffdcaaDoor

namespace Go.Proofs.YtfhejejfeffdcaaDoor
open Go.RowKit

/-- A number of the sum of the first k products, as the document holds it. -/
def DotX (xs ys : List Nat) (k : Nat) (z : Dy) : Prop := Lm z.mag ∧ z.mag = lo (vl z.mag) ∧ -2148 ≤ z.exp ∧ z.exp ≤ 2000 ∧ sv z * 2 ^ (z.exp + 2148).toNat = dI xs ys k
theorem dotX_len {xs ys : List Nat} (h : xs.all finB = true) (g : ys.all finB = true) (hl : ys.length = xs.length) (hn : xs.length ≤ 1125899906842624) {k : Nat} (hk : k ≤ xs.length) {z : Dy} (hz : DotX xs ys k z) : z.mag.length ≤ 80 ∧ bl (vl z.mag) ≤ 5000 := by
  obtain ⟨_, h2, _, _, h5⟩ := hz
  have hb := dI_bl h g hl hn hk
  have : bl (vl z.mag) ≤ 5000 := by
    refine bl_le_iff.2 ?_
    have h6 := bl_le_iff.1 hb
    rw [← h5, Int.natAbs_mul, sv_abs] at h6
    have h7 : 1 ≤ ((2 : Int) ^ (z.exp + 2148).toNat).natAbs := by
      have := pow_pos_int (z.exp + 2148).toNat
      omega
    have h8 := Nat.mul_le_mul_left (vl z.mag) h7
    omega
  refine ⟨?_, this⟩
  rw [h2, lo_length]
  unfold nl
  omega
theorem tm_sum {x y : Nat} (hx : finB x = true) (hy : finB y = true) : Lm (tmD x y).mag ∧ (tmD x y).mag = lo (vl (tmD x y).mag) ∧ -2148 ≤ (tmD x y).exp ∧ (tmD x y).exp ≤ 2000 ∧ sv (tmD x y) * 2 ^ ((tmD x y).exp + 2148).toNat = vI x * vI y ∧ (tmD x y).mag.length ≤ 1000 := by
  have hu : ∀ x, finB x = true → up (rung x) ≤ 2046 := fun x hx => by have := fin_rung hx; unfold up; split <;> omega
  have ux := hu x hx
  have uy := hu y hy
  have hq := qd_tm x y
  have he : -2148 ≤ (tmD x y).exp ∧ (tmD x y).exp ≤ 2000 := by unfold tmD; simp only; omega
  refine ⟨lo_lm _, ?_, he.1, he.2, ?_, tm_len x y⟩
  · unfold tmD
    simp only
    generalize vl (lo (mg (rung x))) * vl (lo (mg (rung y))) = v
    rw [vl_lo]
  · unfold qd at hq
    rw [show ((tmD x y).exp + 65536).toNat = ((tmD x y).exp + 2148).toNat + pwH by unfold pwH; omega, pow_add_int, ← Int.mul_assoc] at hq
    have hp := pow_pos_int pwH
    generalize (2 : Int) ^ pwH = G at hq hp
    exact Int.eq_of_mul_eq_mul_right (by omega) hq
theorem dotX_step {xs ys : List Nat} {k x y : Nat} (ex : xs.getD k 0 = x) (ey : ys.getD k 0 = y) (hx : finB x = true) (hy : finB y = true) {z u : Dy} (hz : DotX xs ys k z) (hp : PlusV z (tmD x y) u) (ht : u.mag = lo (vl u.mag) ∨ u.mag = z.mag ∨ u.mag = (tmD x y).mag) : DotX xs ys (k + 1) u := by
  obtain ⟨z1, z2, z3, z4, z5⟩ := hz
  obtain ⟨f1, f2, f3, f4, f5, _⟩ := tm_sum hx hy
  obtain ⟨p1, p2, p3⟩ := hp
  refine ⟨p1, ?_, by omega, by omega, ?_⟩
  · rcases ht with h | h | h
    · exact h
    · rw [h]; exact z2
    · rw [h]; exact f2
  · have := p3 (-2148) z3 f3
    rw [show u.exp - -2148 = u.exp + 2148 by omega, show z.exp - -2148 = z.exp + 2148 by omega, show (tmD x y).exp - -2148 = (tmD x y).exp + 2148 by omega, z5, f5] at this
    rw [this, dI, ex, ey]
/-- What DotExact tells of the whole sum: as the program's. -/
theorem of_dot {xs ys : List Nat} (h : xs.all finB = true) (g : ys.all finB = true) (hl : ys.length = xs.length) (hn : xs.length ≤ 1125899906842624) {z : Dy} (hz : DotX xs ys xs.length z) (m : Int) (h0 : vl z.mag ≠ 0) : ∃ k, NearK (vl z.mag * 2 ^ (z.exp + 65536).toNat) k ∧ ofW z.neg (vl z.mag) z.exp m k = dxW xs ys m := by
  obtain ⟨K, hK⟩ : ∃ K : Nat, K = 63388 := ⟨_, rfl⟩
  obtain ⟨r1, r2, r3⟩ := dt_qd h g hl hn (Nat.le_refl xs.length) hK
  obtain ⟨z1, z2, z3, z4, z5⟩ := hz
  have hq : qd z = dI xs ys xs.length * 2 ^ K := by
    unfold qd
    rw [← z5, Int.mul_assoc, ← pow_add_int, show (z.exp + 2148).toNat + K = (z.exp + 65536).toNat by omega]
  have hqq : qd (dz (dI xs ys xs.length)) = qd z := by rw [r3, hq]
  have hqz : qd z = if z.neg then -((vl z.mag * 2 ^ (z.exp + 65536).toNat : Nat) : Int) else ((vl z.mag * 2 ^ (z.exp + 65536).toNat : Nat) : Int) := x_units z.neg z.mag z.exp
  have hA : 0 < vl z.mag * 2 ^ (z.exp + 65536).toNat := Nat.mul_pos (Nat.pos_of_ne_zero h0) (Nat.two_pow_pos _)
  have hab : (qd z).natAbs = vl z.mag * 2 ^ (z.exp + 65536).toNat := by
    rw [hqz]
    generalize vl z.mag * 2 ^ (z.exp + 65536).toNat = A
    cases z.neg <;> simp
  have hn0 : (dz (dI xs ys xs.length)).mag.length ≠ 0 := by
    intro hl
    have e1 : sv (dz (dI xs ys xs.length)) = 0 := sv_zero (by rw [List.eq_nil_of_length_eq_zero hl]; rfl)
    have e2 : qd (dz (dI xs ys xs.length)) = 0 := by unfold qd; rw [e1, Int.zero_mul]
    rw [hqq] at e2
    rw [e2] at hab
    simp at hab
    omega
  obtain ⟨k, k1, k2, k3, k4⟩ := rnd_step (dz (dI xs ys xs.length)) m r2 r1 hn0
  rw [hqq] at k1 k2 k4
  have hneg : (dz (dI xs ys xs.length)).neg = z.neg := by
    rw [k2, hqz]
    generalize vl z.mag * 2 ^ (z.exp + 65536).toNat = A at hA
    cases z.neg <;> first | (simp; done) | (simp; omega)
  rw [hab] at k1 k4
  refine ⟨k, k1, ?_⟩
  unfold dxW ofW
  rw [k4, hneg]
theorem of_dnone {xs ys : List Nat} {z : Dy} (hz : DotX xs ys xs.length z) (m : Int) (h0 : vl z.mag = 0) : dxW xs ys m = 0 := by
  obtain ⟨_, _, _, _, z5⟩ := hz
  rw [sv_zero h0, Int.zero_mul] at z5
  unfold dxW
  rw [← z5]
  rfl
end Go.Proofs.YtfhejejfeffdcaaDoor
