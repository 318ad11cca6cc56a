/- What Mul answers. -/
import Derived.Test.YtokfkooffbihcaaDoorDt
namespace Go.Proofs.YtokfkooffbihcaaDoor
open Go.RowKit

theorem norm_at (neg : Bool) (xs : List Nat) (ex : Int) (n : Nat) (hn : xs.length = n) (ao : Option Addr) (cap : Nat) (w : World) (hr : LRow w ao xs) (hL : Lm xs) (hT : TabW w) (hl : n ≤ 1125899906842624) :
    Calls Tryd.prog 13 #[.agg #[.bool neg, .slice ao n cap, .int .i64 ex]] w (Gave w (normD ⟨neg, xs, ex⟩)) := by
  subst hn
  exact norm_any ⟨neg, xs, ex⟩ ao cap w hr hL hT hl
theorem sv_mul {a b : Dy} {zs : List Nat} {e : Int} (hz : vl zs = vl a.mag * vl b.mag) : sv ⟨a.neg != b.neg, zs, e⟩ = sv a * sv b := by
  unfold sv
  simp only [hz, Int.natCast_mul]
  cases a.neg <;> cases b.neg <;> simp [Int.neg_mul, Int.mul_neg]
theorem mul_norm {a b : Dy} (ha : rightB a = true) (hb : rightB b = true) {zs : List Nat} (hz : vl zs = vl a.mag * vl b.mag) : normD ⟨a.neg != b.neg, zs, a.exp + b.exp⟩ = mulD a b := by
  have xa := right_exp ha
  have xb := right_exp hb
  unfold mulD
  rw [ha, hb]
  simp only [Bool.and_self, if_true]
  have := nrm_shift (sv a * sv b) (a.exp + b.exp) ((a.exp + 65536).toNat + (b.exp + 65536).toNat)
  rw [show a.exp + b.exp - (((a.exp + 65536).toNat + (b.exp + 65536).toNat : Nat) : Int) = -131072 by omega, pow_add_int] at this
  unfold normD
  rw [sv_mul hz, ← this]
  unfold qd
  congr 1
  rw [Int.mul_assoc, Int.mul_assoc, Int.mul_left_comm (sv b)]

/-- Three boxes of three cells, behind a call that turned nothing old. -/
theorem box3 {w w1 : World} {x0 x1 x2 y0 y1 y2 z0 z1 z2 : Value} {s t u : TypeId} (hb : Below (((w.alloc (.cells #[x0, x1, x2] s)).alloc (.cells #[y0, y1, y2] t)).alloc (.cells #[z0, z1, z2] u)).heap.size (((w.alloc (.cells #[x0, x1, x2] s)).alloc (.cells #[y0, y1, y2] t)).alloc (.cells #[z0, z1, z2] u)) w1) :
    (w1.cell? ⟨w.heap.size, 0, none⟩ = some x0 ∧ w1.cell? ⟨w.heap.size, 1, none⟩ = some x1 ∧ w1.cell? ⟨w.heap.size, 2, none⟩ = some x2 ∧
    w1.cell? ⟨w.heap.size + 1, 0, none⟩ = some y0 ∧ w1.cell? ⟨w.heap.size + 1, 1, none⟩ = some y1 ∧ w1.cell? ⟨w.heap.size + 1, 2, none⟩ = some y2) ∧
    (w1.cell? ⟨w.heap.size + 1 + 1, 0, none⟩ = some z0 ∧ w1.cell? ⟨w.heap.size + 1 + 1, 1, none⟩ = some z1 ∧ w1.cell? ⟨w.heap.size + 1 + 1, 2, none⟩ = some z2) ∧
    (w1.frozen? ⟨w.heap.size + 1 + 1, 0, none⟩ = false ∧ w1.frozen? ⟨w.heap.size + 1 + 1, 1, none⟩ = false ∧ w1.frozen? ⟨w.heap.size + 1 + 1, 2, none⟩ = false) ∧ Below w.heap.size w w1 := by
  obtain ⟨hc, hf⟩ := oldc hb
  have l0 : w.heap.size < (((w.alloc (.cells #[x0, x1, x2] s)).alloc (.cells #[y0, y1, y2] t)).alloc (.cells #[z0, z1, z2] u)).heap.size := by go_simp
  have l1 : w.heap.size + 1 < (((w.alloc (.cells #[x0, x1, x2] s)).alloc (.cells #[y0, y1, y2] t)).alloc (.cells #[z0, z1, z2] u)).heap.size := by go_simp
  have l2 : w.heap.size + 1 + 1 < (((w.alloc (.cells #[x0, x1, x2] s)).alloc (.cells #[y0, y1, y2] t)).alloc (.cells #[z0, z1, z2] u)).heap.size := by go_simp
  have h1 : Below w.heap.size w (((w.alloc (.cells #[x0, x1, x2] s)).alloc (.cells #[y0, y1, y2] t)).alloc (.cells #[z0, z1, z2] u)) := ((((Below.refl _ _).alloc (Nat.le_refl _) _).alloc (by simp) _).alloc (by go_simp; omega) _)
  refine ⟨⟨?_, ?_, ?_, ?_, ?_, ?_⟩, ⟨?_, ?_, ?_⟩, ⟨?_, ?_, ?_⟩, h1.trans (hb.mono (by omega))⟩
  · rw [hc _ _ l0]; go_simp
  · rw [hc _ _ l0]; go_simp
  · rw [hc _ _ l0]; go_simp
  · rw [hc _ _ l1]; go_simp
  · rw [hc _ _ l1]; go_simp
  · rw [hc _ _ l1]; go_simp
  · rw [hc _ _ l2]; go_simp
  · rw [hc _ _ l2]; go_simp
  · rw [hc _ _ l2]; go_simp
  · rw [hf _ _ l2]; go_simp
  · rw [hf _ _ l2]; go_simp
  · rw [hf _ _ l2]; go_simp
end Go.Proofs.YtokfkooffbihcaaDoor
