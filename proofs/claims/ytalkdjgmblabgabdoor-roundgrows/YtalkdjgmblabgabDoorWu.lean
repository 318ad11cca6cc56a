/- RoundBetween, whatever floats it is given: the walk. -/
import Derived.Test.YtalkdjgmblabgabDoorX2
namespace Go.Proofs.YtalkdjgmblabgabDoor
open Go.RowKit

theorem o_gt {k x y : Nat} (hx : Ok k x) (hy : Ok k y) {B : Bool} (h : decide (place y < place x) = B) : (FloatKind.f64.format.order x y == some .gt) = B := by
  rw [ord_num hx.1 hy.1 (ok_nan hx) (ok_nan hy), cmp_gt, h]
theorem o_lt {k x y : Nat} (hx : Ok k x) (hy : Ok k y) {B : Bool} (h : decide (place x < place y) = B) : (FloatKind.f64.format.order x y == some .lt) = B := by
  rw [ord_num hx.1 hy.1 (ok_nan hx) (ok_nan hy), cmp_lt, h]
theorem o_eq {k x y : Nat} (hx : Ok k x) (hy : Ok k y) {B : Bool} (h : decide (place x = place y) = B) : (FloatKind.f64.format.order x y == some .eq) = B := by
  rw [ord_num hx.1 hy.1 (ok_nan hx) (ok_nan hy), cmp_eq, h]
theorem o_ne {k x y : Nat} (hx : Ok k x) (hy : Ok k y) {B : Bool} (h : decide (place x = place y) = !B) : (FloatKind.f64.format.order x y != some .eq) = B := by
  unfold bne
  rw [o_eq hx hy h, Bool.not_not]
theorem o_ge {k x y : Nat} (hx : Ok k x) (hy : Ok k y) {B : Bool} (h : decide (place y ≤ place x) = B) : (FloatKind.f64.format.order x y == some .gt || FloatKind.f64.format.order x y == some .eq) = B := by
  rw [ord_num hx.1 hy.1 (ok_nan hx) (ok_nan hy), cmp_gt, cmp_eq, ← Bool.decide_or, ← h]
  exact decide_eq_decide.2 (by omega)
theorem o_le {k x y : Nat} (hx : Ok k x) (hy : Ok k y) {B : Bool} (h : decide (place x ≤ place y) = B) : (FloatKind.f64.format.order x y == some .lt || FloatKind.f64.format.order x y == some .eq) = B := by
  rw [ord_num hx.1 hy.1 (ok_nan hx) (ok_nan hy), cmp_lt, cmp_eq, ← Bool.decide_or, ← h]
  exact decide_eq_decide.2 (by omega)
theorem ok_zero (k : Nat) : Ok k 0 := ⟨by omega, by decide, fun _ => Or.inl rfl⟩
theorem did_is {k a b c : Nat} {m : Int} {v : Nat} (hk : k ≤ 5) (h : Ask k a b c) (e : dO k a b c m = some v) (w : World) (hT : TabW w) :
    Calls Tryd.prog 9 #[.int .i64 k, .float .f64 a, .float .f64 b, .float .f64 c, .int .i8 m] w fun e w' => e = .returned (.float .f64 v) ∧ Below w.heap.size w w' := by
  refine (did_all k a b c m hk h.ha h.hb h.hc w hT).mono ?_
  rintro r w' ⟨q, rfl, h1, h2⟩
  rw [e] at h1
  have e2 : q = v := h1.2
  rw [e2]
  exact ⟨rfl, h2⟩
end Go.Proofs.YtalkdjgmblabgabDoor
