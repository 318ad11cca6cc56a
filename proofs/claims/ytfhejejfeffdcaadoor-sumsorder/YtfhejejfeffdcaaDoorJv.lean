/- Exact numbers as dyads, as the laws of layer 3 make them: three floats at once. -/
import Derived.Test.YtfhejejfeffdcaaDoorJu
import Derived.Test.YtfhejejfeffdcaaDoorU6
import Derived.Test.YtfhejejfeffdcaaDoorHk
namespace Go.Proofs.YtfhejejfeffdcaaDoor
open Go.RowKit

/-- A right dyad of X units of 2^-2148. -/
def Fd (D : Dy) (X : Int) : Prop := rightB D = true ∧ Lm D.mag ∧ qd D = X * 2 ^ puH
theorem bl_sm {X : Int} {n : Nat} (h : X.natAbs < 2 ^ n) (hn : n ≤ 16384) : bl X.natAbs ≤ 16384 := by
  obtain ⟨G, hG⟩ : ∃ G : Nat, G = 16384 := ⟨_, rfl⟩
  rw [← hG] at hn ⊢
  exact bl_le_iff.2 (Nat.lt_of_lt_of_le h (pw_le hn))
theorem fd_of {a : Nat} (fa : finB a = true) : ∃ D, ofD a = (D, 0) ∧ Fd D (vI a * 2 ^ twP) := by
  obtain ⟨h1, h2, h3, h4⟩ := fq_qd fa (K := kV) rfl
  refine ⟨(ofD a).1, by rw [← h1], h2, h3, ?_⟩
  rw [h4, Int.mul_assoc, ← Int.pow_add, show twP + puH = kV from rfl]
theorem fd_dz {X : Int} (h : bl X.natAbs ≤ 16384) : Fd (dz X) X := dz_qd h rfl
theorem fd_add {D E : Dy} {X Y : Int} (h : Fd D X) (g : Fd E Y) (hb : bl (X + Y).natAbs ≤ 16384) : addD D E = (dz (X + Y), 0) := by
  unfold addD
  rw [h.1, g.1, h.2.2, g.2.2]
  simp only [Bool.and_self, if_true]
  rw [← Int.add_mul, shift_nrm, show (-65536 : Int) + (puH : Nat) = -2148 from rfl]
  exact dz_told hb
theorem fd_sub {D E : Dy} {X Y : Int} (h : Fd D X) (g : Fd E Y) (hb : bl (X - Y).natAbs ≤ 16384) : subD D E = (dz (X - Y), 0) := by
  unfold subD
  rw [h.1, g.1, h.2.2, g.2.2]
  simp only [Bool.and_self, if_true]
  rw [← Int.sub_mul, shift_nrm, show (-65536 : Int) + (puH : Nat) = -2148 from rfl]
  exact dz_told hb
theorem fd_mul {D E : Dy} {x y : Int} (h : Fd D (x * 2 ^ twP)) (g : Fd E (y * 2 ^ twP)) (hb : bl (x * y).natAbs ≤ 16384) : mulD D E = (dz (x * y), 0) := by
  unfold mulD
  rw [h.1, g.1, h.2.2, g.2.2]
  simp only [Bool.and_self, if_true]
  rw [show x * 2 ^ twP * 2 ^ puH * (y * 2 ^ twP * 2 ^ puH) = x * y * 2 ^ (kV + kV) by
    rw [Int.pow_add, show kV = twP + puH from rfl, Int.pow_add]
    generalize (2 : Int) ^ twP = P
    generalize (2 : Int) ^ puH = Q
    ac_rfl, shift_nrm, show (-131072 : Int) + ((kV + kV : Nat) : Int) = -2148 from rfl]
  exact dz_told hb
theorem fd_cmp {D E : Dy} {X Y : Int} (h : Fd D X) (g : Fd E Y) : sgI (qd D - qd E) = sgI (X - Y) := by
  rw [h.2.2, g.2.2, ← Int.sub_mul, sgI_pw]
theorem vI_bd {a : Nat} (fa : finB a = true) : ∃ V, V = 2098 ∧ (vI a).natAbs < 2 ^ V := by
  obtain ⟨V, hV⟩ : ∃ V : Nat, V = 2098 := ⟨_, rfl⟩
  exact ⟨V, hV, vI_lt fa hV⟩
/-- A box that may be written. -/
def Fzr (w : World) (p : Nat) : Prop := w.frozen? ⟨p, 0, none⟩ = false ∧ w.frozen? ⟨p, 1, none⟩ = false ∧ w.frozen? ⟨p, 2, none⟩ = false
theorem Fzr.below {w w1 : World} {p : Nat} (h : Fzr w p) (hp : p < w.heap.size) (hb : Below w.heap.size w w1) : Fzr w1 p := by
  obtain ⟨_, hf⟩ := oldc hb
  exact ⟨(hf _ _ hp).trans h.1, (hf _ _ hp).trans h.2.1, (hf _ _ hp).trans h.2.2⟩
theorem put3r {w : World} {p B : Nat} {a : Option Addr} {c : Nat} {D E : Dy} {ao : Option Addr} {cap : Nat} (h : Hd w p D ao cap) (hz : Fzr w p) (hr : LRow w a E.mag) (hf : Frs B a) (hp : p < B) :
    Hd (((w.setCell ⟨p, 0, none⟩ (.bool E.neg)).setCell ⟨p, 1, none⟩ (.slice a E.mag.length c)).setCell ⟨p, 2, none⟩ (.int .i64 E.exp)) p E a c ∧ Fzr (((w.setCell ⟨p, 0, none⟩ (.bool E.neg)).setCell ⟨p, 1, none⟩ (.slice a E.mag.length c)).setCell ⟨p, 2, none⟩ (.int .i64 E.exp)) p := by
  have s0 : (w.setCell ⟨p, 0, none⟩ (.bool E.neg)).cell? ⟨p, 0, none⟩ = some (.bool E.neg) := World.cell?_setCell_same w _ _ h.c0
  have s1 : (w.setCell ⟨p, 0, none⟩ (.bool E.neg)).cell? ⟨p, 1, none⟩ = some (.slice ao D.mag.length cap) := (World.cell?_setCell_other w _ _ _ (by simp)).trans h.c1
  have s2 : (w.setCell ⟨p, 0, none⟩ (.bool E.neg)).cell? ⟨p, 2, none⟩ = some (.int .i64 D.exp) := (World.cell?_setCell_other w _ _ _ (by simp)).trans h.c2
  have t0 := (World.cell?_setCell_other _ ⟨p, 1, none⟩ ⟨p, 0, none⟩ (.slice a E.mag.length c) (by simp)).trans s0
  have t1 := World.cell?_setCell_same _ _ (.slice a E.mag.length c) s1
  have t2 := (World.cell?_setCell_other _ ⟨p, 1, none⟩ ⟨p, 2, none⟩ (.slice a E.mag.length c) (by simp)).trans s2
  refine ⟨⟨(World.cell?_setCell_other _ _ _ _ (by simp)).trans t0, (World.cell?_setCell_other _ _ _ _ (by simp)).trans t1, World.cell?_setCell_same _ _ _ t2, ((hr.box hf hp _ _).box hf hp _ _).box hf hp _ _⟩, ?_⟩
  obtain ⟨f0, f1, f2⟩ := hz
  refine ⟨?_, ?_, ?_⟩ <;> simp [go_sem, f0, f1, f2]
end Go.Proofs.YtfhejejfeffdcaaDoor
