/- What Mul answers: the walk. -/
import Derived.Test.YtclldmdhpojciaaZl
import Derived.Shelf.Spec.BitsCarry
namespace Go.Proofs.Ytclldmdhpojciaa
open Go.RowKit

theorem ret2U {a b c d : Int} (h : a = b) (g : c = d) : Ending.returned (.tuple #[.int .u64 a, .int .u64 c]) = .returned (.tuple #[.int .u64 b, .int .u64 d]) := by rw [h, g]

theorem wrapU_bd (n : Int) : 0 ≤ IntKind.u64.wrap n ∧ IntKind.u64.wrap n < 18446744073709551616 := by rw [IntKind.wrap_u64]; omega
theorem mul64_high (x y : Int) (hx0 : 0 ≤ x) (hx : x < 18446744073709551616) (hy0 : 0 ≤ y) (hy : y < 18446744073709551616) :
    IntKind.u64.wrap (IntKind.u64.wrap (IntKind.u64.wrap (x / 4294967296 * (y / 4294967296)) + IntKind.u64.wrap (IntKind.u64.wrap (x / 4294967296 * (y % 4294967296)) + IntKind.u64.wrap (x % 4294967296 * (y % 4294967296)) / 4294967296) / 4294967296) +
      IntKind.u64.wrap (bits BinOp.and IntKind.u64 (IntKind.u64.wrap (IntKind.u64.wrap (x / 4294967296 * (y % 4294967296)) + IntKind.u64.wrap (x % 4294967296 * (y % 4294967296)) / 4294967296)) 4294967295 + IntKind.u64.wrap (x % 4294967296 * (y / 4294967296))) / 4294967296) = x * y / 18446744073709551616 := by
  have t := wrapU_bd (IntKind.u64.wrap (x / 4294967296 * (y % 4294967296)) + IntKind.u64.wrap (x % 4294967296 * (y % 4294967296)) / 4294967296)
  rw [and_low32 _ t.1 t.2]
  simp only [IntKind.wrap_u64]
  exact mul64_arith x y hx0 hx hy0 hy

/-- One limb of a row: what the three steps come to. -/
theorem times_step {x b t c : Int} (hx0 : 0 ≤ x) (hx : x < 18446744073709551616) (hb0 : 0 ≤ b) (hb : b < 18446744073709551616) (ht0 : 0 ≤ t) (ht : t < 18446744073709551616) (hc0 : 0 ≤ c) (hc : c < 18446744073709551616) :
    ((x * b % 18446744073709551616 + t) % 18446744073709551616 + c) % 18446744073709551616 = (x * b + t + c) % 18446744073709551616 ∧
    x * b / 18446744073709551616 + (x * b % 18446744073709551616 + t) / 18446744073709551616 + ((x * b % 18446744073709551616 + t) % 18446744073709551616 + c) / 18446744073709551616 = (x * b + t + c) / 18446744073709551616 ∧
    x * b / 18446744073709551616 + (x * b % 18446744073709551616 + t) / 18446744073709551616 < 18446744073709551616 ∧ (x * b + t + c) / 18446744073709551616 < 18446744073709551616 ∧ 0 ≤ x * b / 18446744073709551616 := by
  have p0 : 0 ≤ x * b := Int.mul_nonneg hx0 hb0
  have p1 : x * b ≤ 18446744073709551615 * 18446744073709551615 := Int.mul_le_mul (by omega) (by omega) hb0 (by omega)
  generalize x * b = p at *
  omega
end Go.Proofs.Ytclldmdhpojciaa

namespace Go.Proofs.Ytclldmdhpojciaa
open Go.RowKit

/-- A row of n cells, those from off on replaced by a list. -/
def laidF (f : Nat → Nat) (off k : Nat) (out : List Nat) (j : Nat) : Nat := if off ≤ j ∧ j < off + k then out.getD (j - off) 0 else f j
theorem laidF_zero (f : Nat → Nat) (off : Nat) (out : List Nat) (j : Nat) : laidF f off 0 out j = f j := by unfold laidF; rw [if_neg (by omega)]
theorem laidF_snoc {f : Nat → Nat} {off k : Nat} {out : List Nat} (hl : out.length = k) (v j : Nat) : (if j = off + k then v else laidF f off k out j) = laidF f off (k + 1) (out ++ [v]) j := by
  unfold laidF
  by_cases h : j = off + k
  · rw [if_pos h, if_pos (by omega), h, show off + k - off = k by omega, List.getD_eq_getElem?_getD, List.getElem?_append_right (by omega)]
    simp [hl]
  · rw [if_neg h]
    by_cases h2 : off ≤ j ∧ j < off + k
    · rw [if_pos h2, if_pos (by omega), List.getD_eq_getElem?_getD, List.getD_eq_getElem?_getD, List.getElem?_append_left (by omega)]
    · rw [if_neg h2, if_neg (by omega)]
/-- The answer of addTimes: the limbs laid down, what is carried. -/
def GaveRow (w0 : World) (L : Nat) (f : Nat → Nat) (off : Nat) (t xs : List Nat) (b : Nat) (e : Ending) (w' : World) : Prop :=
  ∃ out c : _, e = .returned (.int .u64 ((c : Nat) : Int)) ∧ Rowed t xs b xs.length out c ∧ FRow w' w0.heap.size L (laidF f off xs.length out) ∧ Below w0.heap.size w0 w'

end Go.Proofs.Ytclldmdhpojciaa

namespace Go.Proofs.Ytclldmdhpojciaa
open Go.RowKit

/-- The number of the first n limbs that a function tells. -/
def vF : Nat → (Nat → Nat) → Nat
  | 0, _ => 0
  | n + 1, f => vF n f + 2 ^ (64 * n) * f n
theorem vF_congr {n : Nat} {f g : Nat → Nat} (h : ∀ j, j < n → f j = g j) : vF n f = vF n g := by
  induction n with
  | zero => rfl
  | succ n ih => rw [vF, vF, ih (fun j hj => h j (by omega)), h n (by omega)]
theorem vF_zero {n : Nat} {f : Nat → Nat} (h : ∀ j, j < n → f j = 0) : vF n f = 0 := by
  induction n with
  | zero => rfl
  | succ n ih => rw [vF, ih (fun j hj => h j (by omega)), h n (by omega), Nat.mul_zero]
theorem vF_split (a b : Nat) (f : Nat → Nat) : vF (a + b) f = vF a f + 2 ^ (64 * a) * vF b (fun j => f (a + j)) := by
  induction b with
  | zero => simp [vF]
  | succ b ih =>
    rw [← Nat.add_assoc, vF, vF, ih, show 64 * (a + b) = 64 * a + 64 * b by omega, Nat.pow_add, Nat.mul_add, Nat.mul_assoc, Nat.add_assoc]
theorem vF_list (xs : List Nat) : ∀ k, k ≤ xs.length → vF k (fun j => xs.getD j 0) = vl (xs.take k)
  | 0, _ => by simp [vF, vl]
  | k + 1, h => by rw [vF, vF_list xs k (by omega), vl_take_succ (by omega)]
/-- Limbs as a list out of a function. -/
def toL (n : Nat) (f : Nat → Nat) : List Nat := (List.range n).map f
theorem toL_length (n : Nat) (f : Nat → Nat) : (toL n f).length = n := by simp [toL]
theorem toL_getD {n : Nat} {f : Nat → Nat} {j : Nat} (h : j < n) : (toL n f).getD j 0 = f j := by simp [toL, List.getD_eq_getElem?_getD, h]
theorem toL_vl (n : Nat) (f : Nat → Nat) : vl (toL n f) = vF n f := by
  have := vF_list (toL n f) n (by rw [toL_length]; omega)
  rw [List.take_of_length_le (by rw [toL_length]; omega)] at this
  rw [← this]
  exact vF_congr fun j hj => toL_getD hj
theorem toL_lm {n : Nat} {f : Nat → Nat} (h : ∀ j, j < n → f j < 18446744073709551616) : Lm (toL n f) := by
  intro x hx
  simp only [toL, List.mem_map, List.mem_range] at hx
  obtain ⟨j, hj, rfl⟩ := hx
  exact h j hj
/-- The product so far. -/
def Prod' (xs ys : List Nat) (n k : Nat) (f : Nat → Nat) : Prop := (∀ j, j < n → f j < 18446744073709551616) ∧ vF n f = vl (xs.take k) * vl ys ∧ ∀ j, k + ys.length ≤ j → f j = 0
theorem prod_nil (xs ys : List Nat) (n : Nat) : Prod' xs ys n 0 (fun _ => 0) := ⟨fun _ _ => (show 0 < 18446744073709551616 by omega), by rw [vF_zero (fun _ _ => rfl)]; simp [vl], fun _ _ => rfl⟩
theorem prod_step {xs ys : List Nat} {n k : Nat} {f : Nat → Nat} {out : List Nat} {c : Nat} (h : Prod' xs ys n k f) (hn : n = xs.length + ys.length) (hk : k < xs.length)
    (hR : Rowed (toL ys.length fun j => f (k + j)) ys (xs.getD k 0) ys.length out c) :
    Prod' xs ys n (k + 1) (fun j => if j = k + ys.length then c else laidF f k ys.length out j) := by
  obtain ⟨h1, h2, h3⟩ := h
  obtain ⟨r1, r2, r3, r4⟩ := hR
  have ht : (toL ys.length fun j => f (k + j)).take ys.length = toL ys.length fun j => f (k + j) := List.take_of_length_le (by rw [toL_length]; omega)
  rw [ht, toL_vl, List.take_length] at r4
  refine ⟨fun j hj => ?_, ?_, fun j hj => ?_⟩
  · by_cases e : j = k + ys.length
    · simp only [e, if_true]; exact r3
    · simp only [e, if_false]
      unfold laidF
      split
      · exact r1.getD _
      · exact h1 j hj
  · obtain ⟨r, hr⟩ : ∃ r, n = k + (ys.length + (1 + r)) := ⟨n - k - ys.length - 1, by omega⟩
    rw [hr, vF_split, vF_split, vF_split] at h2 ⊢
    have e1 : vF k (fun j => if j = k + ys.length then c else laidF f k ys.length out j) = vF k f := vF_congr fun j hj => by
      simp only [show j ≠ k + ys.length by omega, if_false]; unfold laidF; rw [if_neg (by omega)]
    have e2 : vF ys.length (fun j => if k + j = k + ys.length then c else laidF f k ys.length out (k + j)) = vl out := by
      have := vF_list out ys.length (by omega)
      rw [List.take_of_length_le (by omega)] at this
      rw [← this]
      exact vF_congr fun j hj => by
        simp only [show ¬ k + j = k + ys.length by omega, if_false]; unfold laidF; rw [if_pos (by omega), show k + j - k = j by omega]
    have e3 : vF 1 (fun j => if k + (ys.length + j) = k + ys.length then c else laidF f k ys.length out (k + (ys.length + j))) = c := by
      simp [vF]
    have e4 : vF r (fun j => if k + (ys.length + (1 + j)) = k + ys.length then c else laidF f k ys.length out (k + (ys.length + (1 + j)))) = 0 := vF_zero fun j hj => by
      simp only [show ¬ k + (ys.length + (1 + j)) = k + ys.length by omega, if_false]; unfold laidF; rw [if_neg (by omega)]; exact h3 _ (by omega)
    have e5 : vF 1 (fun j => f (k + (ys.length + j))) = 0 := vF_zero fun j _ => h3 _ (by omega)
    have e6 : vF r (fun j => f (k + (ys.length + (1 + j)))) = 0 := vF_zero fun j _ => h3 _ (by omega)
    rw [e1, e2, e3, e4, Nat.mul_zero, Nat.add_zero, r4]
    rw [e5, e6, Nat.mul_zero, Nat.add_zero] at h2
    rw [vl_take_succ hk, Nat.add_mul, ← h2, Nat.mul_add, ← Nat.add_assoc, Nat.mul_assoc, Nat.mul_comm (xs.getD k 0)]
  · have hj' : (k + 1) + ys.length ≤ j := hj
    simp only [show j ≠ k + ys.length by omega, if_false]
    unfold laidF; rw [if_neg (by omega)]; exact h3 j (by omega)

def GaveP (w : World) (xs ys : List Nat) (e : Ending) (w' : World) : Prop :=
  ∃ (n : Nat) (f : Nat → Nat), e = .returned (.slice (some ⟨w.heap.size, 0, none⟩) n (xs.length + ys.length)) ∧ n ≤ xs.length + ys.length ∧ (∀ j, j < n → f j < 18446744073709551616) ∧ vF n f = vl xs * vl ys ∧ LRow w' (some ⟨w.heap.size, 0, none⟩) (toL n f) ∧ Below w.heap.size w w'

theorem FRow.lrowL {w : World} {b n : Nat} {f : Nat → Nat} (h : FRow w b n f) : LRow w (some ⟨b, 0, none⟩) (toL n f) := h.lrow (toL_length _ _) (fun _ hj => toL_getD hj)
/-- The first limbs of a row. -/
theorem LRow.cutL {w : World} {ao : Option Addr} {n m : Nat} {f : Nat → Nat} (h : LRow w ao (toL n f)) (hm : m ≤ n) : LRow w ao (toL m f) := by
  by_cases h0 : m = 0
  · exact Or.inl (by rw [toL_length]; exact h0)
  rcases h with h | ⟨b, o, rfl, hc⟩
  · rw [toL_length] at h; omega
  · refine Or.inr ⟨b, o, rfl, fun j hj => ?_⟩
    rw [toL_length] at hj
    rw [hc j (by rw [toL_length]; omega), toL_getD (by omega), toL_getD hj]
/-- How many limbs a number needs, and that the others are noughts. -/
theorem trim_vF {n : Nat} {f : Nat → Nat} (h : ∀ j, j < n → f j < 18446744073709551616) : (bl (vF n f) + 63) / 64 ≤ n ∧ vF ((bl (vF n f) + 63) / 64) f = vF n f := by
  have hb : ∀ m, (∀ j, j < m → f j < 18446744073709551616) → vF m f < 2 ^ (64 * m) := fun m hm => by
    induction m with
    | zero => simp [vF]
    | succ m ih =>
      have i1 := ih (fun j hj => hm j (by omega))
      have i2 := hm m (by omega)
      rw [vF, show 64 * (m + 1) = 64 * m + 64 by omega, Nat.pow_add, p64]
      have : 2 ^ (64 * m) * f m ≤ 2 ^ (64 * m) * 18446744073709551615 := Nat.mul_le_mul_left _ (by omega)
      omega
  have h1 := hb n h
  have h2 : bl (vF n f) ≤ 64 * n := bl_le_iff.2 h1
  refine ⟨by omega, ?_⟩
  obtain ⟨m, hm⟩ : ∃ m, (bl (vF n f) + 63) / 64 = m := ⟨_, rfl⟩
  rw [hm]
  obtain ⟨r, rfl⟩ : ∃ r, n = m + r := ⟨n - m, by omega⟩
  have h3 : vF (m + r) f < 2 ^ (64 * m) := bl_le_iff.1 (by omega)
  rw [vF_split] at h3 ⊢
  have h4 : vF r (fun j => f (m + j)) = 0 := by
    rcases Nat.eq_zero_or_pos (vF r (fun j => f (m + j))) with h | h
    · exact h
    · have := Nat.mul_le_mul_left (2 ^ (64 * m)) h
      omega
  rw [h4, Nat.mul_zero, Nat.add_zero]

end Go.Proofs.Ytclldmdhpojciaa

namespace Go.Proofs.Ytclldmdhpojciaa
open Go.RowKit

end Go.Proofs.Ytclldmdhpojciaa

namespace Go.Proofs.Ytclldmdhpojciaa
open Go.RowKit

theorem sv_mul {a b : Dy} {zs : List Nat} {e : Int} (hz : vl zs = vl a.mag * vl b.mag) : sv ⟨a.neg != b.neg, zs, e⟩ = sv a * sv b := by
  unfold sv
  simp only [hz, Int.natCast_mul]
  cases a.neg <;> cases b.neg <;> simp [Int.neg_mul, Int.mul_neg]
theorem mul_norm {a b : Dy} (ha : rightB a = true) (hb : rightB b = true) {zs : List Nat} (hz : vl zs = vl a.mag * vl b.mag) : normD ⟨a.neg != b.neg, zs, a.exp + b.exp⟩ = mulD a b := by
  have xa := right_exp ha
  have xb := right_exp hb
  unfold mulD
  rw [ha, hb]
  simp only [Bool.and_self, if_true]
  have := nrm_shift (sv a * sv b) (a.exp + b.exp) ((a.exp + 65536).toNat + (b.exp + 65536).toNat)
  rw [show a.exp + b.exp - (((a.exp + 65536).toNat + (b.exp + 65536).toNat : Nat) : Int) = -131072 by omega, pow_add_int] at this
  unfold normD
  rw [sv_mul hz, ← this]
  unfold qd
  congr 1
  rw [Int.mul_assoc, Int.mul_assoc, Int.mul_left_comm (sv b)]

/-- Three boxes of three cells, behind a call that turned nothing old. -/
theorem box3 {w w1 : World} {x0 x1 x2 y0 y1 y2 z0 z1 z2 : Value} {s t u : TypeId} (hb : Below (((w.alloc (.cells #[x0, x1, x2] s)).alloc (.cells #[y0, y1, y2] t)).alloc (.cells #[z0, z1, z2] u)).heap.size (((w.alloc (.cells #[x0, x1, x2] s)).alloc (.cells #[y0, y1, y2] t)).alloc (.cells #[z0, z1, z2] u)) w1) :
    (w1.cell? ⟨w.heap.size, 0, none⟩ = some x0 ∧ w1.cell? ⟨w.heap.size, 1, none⟩ = some x1 ∧ w1.cell? ⟨w.heap.size, 2, none⟩ = some x2 ∧
    w1.cell? ⟨w.heap.size + 1, 0, none⟩ = some y0 ∧ w1.cell? ⟨w.heap.size + 1, 1, none⟩ = some y1 ∧ w1.cell? ⟨w.heap.size + 1, 2, none⟩ = some y2) ∧
    (w1.cell? ⟨w.heap.size + 1 + 1, 0, none⟩ = some z0 ∧ w1.cell? ⟨w.heap.size + 1 + 1, 1, none⟩ = some z1 ∧ w1.cell? ⟨w.heap.size + 1 + 1, 2, none⟩ = some z2) ∧
    (w1.frozen? ⟨w.heap.size + 1 + 1, 0, none⟩ = false ∧ w1.frozen? ⟨w.heap.size + 1 + 1, 1, none⟩ = false ∧ w1.frozen? ⟨w.heap.size + 1 + 1, 2, none⟩ = false) ∧ Below w.heap.size w w1 := by
  obtain ⟨hc, hf⟩ := oldc hb
  have l0 : w.heap.size < (((w.alloc (.cells #[x0, x1, x2] s)).alloc (.cells #[y0, y1, y2] t)).alloc (.cells #[z0, z1, z2] u)).heap.size := by go_simp
  have l1 : w.heap.size + 1 < (((w.alloc (.cells #[x0, x1, x2] s)).alloc (.cells #[y0, y1, y2] t)).alloc (.cells #[z0, z1, z2] u)).heap.size := by go_simp
  have l2 : w.heap.size + 1 + 1 < (((w.alloc (.cells #[x0, x1, x2] s)).alloc (.cells #[y0, y1, y2] t)).alloc (.cells #[z0, z1, z2] u)).heap.size := by go_simp
  have h1 : Below w.heap.size w (((w.alloc (.cells #[x0, x1, x2] s)).alloc (.cells #[y0, y1, y2] t)).alloc (.cells #[z0, z1, z2] u)) := ((((Below.refl _ _).alloc (Nat.le_refl _) _).alloc (by simp) _).alloc (by go_simp; omega) _)
  refine ⟨⟨?_, ?_, ?_, ?_, ?_, ?_⟩, ⟨?_, ?_, ?_⟩, ⟨?_, ?_, ?_⟩, h1.trans (hb.mono (by omega))⟩
  · rw [hc _ _ l0]; go_simp
  · rw [hc _ _ l0]; go_simp
  · rw [hc _ _ l0]; go_simp
  · rw [hc _ _ l1]; go_simp
  · rw [hc _ _ l1]; go_simp
  · rw [hc _ _ l1]; go_simp
  · rw [hc _ _ l2]; go_simp
  · rw [hc _ _ l2]; go_simp
  · rw [hc _ _ l2]; go_simp
  · rw [hf _ _ l2]; go_simp
  · rw [hf _ _ l2]; go_simp
  · rw [hf _ _ l2]; go_simp
end Go.Proofs.Ytclldmdhpojciaa

namespace Go.Proofs.Ytclldmdhpojciaa
open Go.RowKit

/-- Nine cells and three marks read anew behind a further call. -/
theorem three_on {w1 w2 : World} (h : Below w1.heap.size w1 w2) {p : Nat} {x0 x1 x2 : Value} (hc : w1.cell? ⟨p, 0, none⟩ = some x0 ∧ w1.cell? ⟨p, 1, none⟩ = some x1 ∧ w1.cell? ⟨p, 2, none⟩ = some x2) :
    w2.cell? ⟨p, 0, none⟩ = some x0 ∧ w2.cell? ⟨p, 1, none⟩ = some x1 ∧ w2.cell? ⟨p, 2, none⟩ = some x2 := by
  have one : ∀ (o : Nat) (v : Value), w1.cell? ⟨p, o, none⟩ = some v → w2.cell? ⟨p, o, none⟩ = some v := fun o v hc => by
    rw [h.cell (World.block_lt_of_cell? w1 _ hc)]; exact hc
  exact ⟨one _ _ hc.1, one _ _ hc.2.1, one _ _ hc.2.2⟩
theorem marks_on {w1 w2 : World} (h : Below w1.heap.size w1 w2) {p : Nat} {x0 : Value} (hc : w1.cell? ⟨p, 0, none⟩ = some x0) (hf : w1.frozen? ⟨p, 0, none⟩ = false ∧ w1.frozen? ⟨p, 1, none⟩ = false ∧ w1.frozen? ⟨p, 2, none⟩ = false) :
    w2.frozen? ⟨p, 0, none⟩ = false ∧ w2.frozen? ⟨p, 1, none⟩ = false ∧ w2.frozen? ⟨p, 2, none⟩ = false := by
  have hl := World.block_lt_of_cell? w1 _ hc
  exact ⟨by rw [h.frozen hl]; exact hf.1, by rw [h.frozen (p := ⟨p, 1, none⟩) hl]; exact hf.2.1, by rw [h.frozen (p := ⟨p, 2, none⟩) hl]; exact hf.2.2⟩

end Go.Proofs.Ytclldmdhpojciaa
