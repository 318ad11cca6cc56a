/- What Of and Int answer. -/
import Derived.Test.YtbnjjoaippoinaaZb
import Derived.Deep.RegionHeld3
import Derived.Deep.QuietTactic
import Derived.BigQuiet
import Derived.OwnWalk
import Derived.Laws.AppendOwnNone
import Derived.Deep.DeepCutAuto
import Derived.Test.YtbnjjoaippoinaaZa
import Derived.Test.YtbnjjoaippoinaaZg
import Derived.Test.YtbnjjoaippoinaaU1
import Derived.Shelf.Spec.BitsCarry
namespace Go.Proofs.Ytbnjjoaippoinaa
open Go.RowKit

/-- Norm's answer by its cases. -/
theorem norm_zero {d : Dy} (h : vl d.mag = 0) : normD d = (dy0, 0) := by
  have : sv d = 0 := by have := sv_abs d; omega
  unfold normD nrm; rw [if_pos this]
theorem norm_long {d : Dy} (h0 : vl d.mag ≠ 0) (h : 16384 < bl (vl d.mag) - tz (vl d.mag) ∨ d.exp + tz (vl d.mag) < -65536 ∨ 65536 < d.exp + tz (vl d.mag)) : normD d = (dy0, 3) := by
  have : sv d ≠ 0 := by have := sv_abs d; omega
  unfold normD nrm; rw [if_neg this, sv_abs, if_pos h]
theorem norm_fine {d : Dy} (h0 : vl d.mag ≠ 0) (h : ¬ (16384 < bl (vl d.mag) - tz (vl d.mag) ∨ d.exp + tz (vl d.mag) < -65536 ∨ 65536 < d.exp + tz (vl d.mag))) : normD d = (⟨d.neg, lo (vl d.mag / 2 ^ tz (vl d.mag)), d.exp + tz (vl d.mag)⟩, 0) := by
  have : sv d ≠ 0 := by have := sv_abs d; omega
  unfold normD nrm; rw [if_neg this, sv_abs, if_neg h, sv_neg h0]

theorem undrew {w w1 : World} (h : Below w.drew.heap.size w.drew w1) : Below w.heap.size w w1 := ⟨h.os, h.tape, h.output, h.size, h.block⟩
/-- Two boxes of three cells, behind a call that turned nothing old. -/
theorem box2 {w w1 : World} {x0 x1 x2 y0 y1 y2 : Value} {s t : TypeId} (hb : Below ((w.alloc (.cells #[x0, x1, x2] s)).alloc (.cells #[y0, y1, y2] t)).heap.size ((w.alloc (.cells #[x0, x1, x2] s)).alloc (.cells #[y0, y1, y2] t)) w1) :
    (w1.cell? ⟨w.heap.size, 0, none⟩ = some x0 ∧ w1.cell? ⟨w.heap.size, 1, none⟩ = some x1 ∧ w1.cell? ⟨w.heap.size, 2, none⟩ = some x2) ∧
    (w1.cell? ⟨w.heap.size + 1, 0, none⟩ = some y0 ∧ w1.cell? ⟨w.heap.size + 1, 1, none⟩ = some y1 ∧ w1.cell? ⟨w.heap.size + 1, 2, none⟩ = some y2) ∧
    (w1.frozen? ⟨w.heap.size + 1, 0, none⟩ = false ∧ w1.frozen? ⟨w.heap.size + 1, 1, none⟩ = false ∧ w1.frozen? ⟨w.heap.size + 1, 2, none⟩ = false) ∧
    (w1.frozen? ⟨w.heap.size, 0, none⟩ = false ∧ w1.frozen? ⟨w.heap.size, 1, none⟩ = false ∧ w1.frozen? ⟨w.heap.size, 2, none⟩ = false) := by
  obtain ⟨hc, hf⟩ := oldc hb
  have l0 : w.heap.size < ((w.alloc (.cells #[x0, x1, x2] s)).alloc (.cells #[y0, y1, y2] t)).heap.size := by go_simp
  have l1 : w.heap.size + 1 < ((w.alloc (.cells #[x0, x1, x2] s)).alloc (.cells #[y0, y1, y2] t)).heap.size := by go_simp
  refine ⟨⟨?_, ?_, ?_⟩, ⟨?_, ?_, ?_⟩, ⟨?_, ?_, ?_⟩, ?_, ?_, ?_⟩
  · rw [hc _ _ l0]; go_simp
  · rw [hc _ _ l0]; go_simp
  · rw [hc _ _ l0]; go_simp
  · rw [hc _ _ l1]; go_simp
  · rw [hc _ _ l1]; go_simp
  · rw [hc _ _ l1]; go_simp
  · rw [hf _ _ l1]; go_simp
  · rw [hf _ _ l1]; go_simp
  · rw [hf _ _ l1]; go_simp
  · rw [hf _ _ l0]; go_simp
  · rw [hf _ _ l0]; go_simp
  · rw [hf _ _ l0]; go_simp
/-- Nothing older than the two boxes has turned. -/
theorem box2_old {w w1 : World} {x0 x1 x2 y0 y1 y2 : Value} {s t : TypeId} (hb : Below ((w.alloc (.cells #[x0, x1, x2] s)).alloc (.cells #[y0, y1, y2] t)).heap.size ((w.alloc (.cells #[x0, x1, x2] s)).alloc (.cells #[y0, y1, y2] t)) w1) : Below w.heap.size w w1 := by
  have h1 : Below w.heap.size w ((w.alloc (.cells #[x0, x1, x2] s)).alloc (.cells #[y0, y1, y2] t)) := (((Below.refl _ _).alloc (Nat.le_refl _) _).alloc (by simp) _)
  exact h1.trans (hb.mono (by go_simp; omega))
/-- The second of two boxes written, behind such a call. -/
theorem box2_end {w w1 : World} {x0 x1 x2 y0 y1 y2 : Value} {s t : TypeId} (hb : Below ((w.alloc (.cells #[x0, x1, x2] s)).alloc (.cells #[y0, y1, y2] t)).heap.size ((w.alloc (.cells #[x0, x1, x2] s)).alloc (.cells #[y0, y1, y2] t)) w1) (z0 z1 z2 : Value) :
    Below w.heap.size w (((w1.setCell ⟨w.heap.size + 1, 0, none⟩ z0).setCell ⟨w.heap.size + 1, 1, none⟩ z1).setCell ⟨w.heap.size + 1, 2, none⟩ z2) :=
  ((((box2_old hb).setCell (by simp) _).setCell (by simp) _).setCell (by simp) _)
theorem FRow.box {w : World} {b n c : Nat} {f : Nat → Nat} (h : FRow w b n f) (hc : b ≠ c) (z0 z1 z2 : Value) : FRow (((w.setCell ⟨c, 0, none⟩ z0).setCell ⟨c, 1, none⟩ z1).setCell ⟨c, 2, none⟩ z2) b n f :=
  World.rowIs.setOther (World.rowIs.setOther (World.rowIs.setOther h (by exact hc) _) (by exact hc) _) (by exact hc) _

end Go.Proofs.Ytbnjjoaippoinaa

namespace Go.Proofs.Ytbnjjoaippoinaa
open Go.RowKit

/-- A dyad handed back: its limbs lie in memory, nothing old has turned. -/
def Gave (w : World) (r : Dy × Int) (e : Ending) (w' : World) : Prop :=
  ∃ ao cap, e = .returned (.tuple #[.agg #[.bool r.1.neg, .slice ao r.1.mag.length cap, .int .i64 r.1.exp], .int .i64 r.2]) ∧ LRow w' ao r.1.mag ∧ Frs w.heap.size ao ∧ Below w.heap.size w w'

end Go.Proofs.Ytbnjjoaippoinaa

namespace Go.Proofs.Ytbnjjoaippoinaa
open Go.RowKit

theorem u64_and1 {x : Nat} (h : x < 18446744073709551616) : bits .and .u64 (x : Int) 1 = ((x % 2 : Nat) : Int) := by
  have g := u64_and_nat x 1 h (by omega)
  have e2 : ((1 : Nat) : Int) = 1 := rfl
  rw [e2] at g
  rw [g]
  have := Nat.and_two_pow_sub_one_eq_mod x 1
  rw [show (2 : Nat) ^ 1 - 1 = 1 from rfl, show (2 : Nat) ^ 1 = 2 from rfl] at this
  rw [this]

theorem cell_alloc {w : World} {a : Addr} {v : Value} (h : w.cell? a = some v) (o : Obj) : (w.alloc o).cell? a = some v := by
  rw [((Below.refl _ _).alloc (Nat.le_refl _) o).cell (World.block_lt_of_cell? w _ h)]; exact h

end Go.Proofs.Ytbnjjoaippoinaa

namespace Go.Proofs.Ytbnjjoaippoinaa
open Go.RowKit

/-- A dyad with its sign turned. -/
def trn (d : Dy) : Dy := ⟨!d.neg && decide (0 < d.mag.length), d.mag, d.exp⟩

def sgD (d : Dy) : Int := if d.mag.length = 0 then 0 else if d.neg then -1 else 1
def uv (xs : List Nat) : List Value := xs.map fun x => .int .u64 (x : Nat)
theorem uv_length (xs : List Nat) : (uv xs).length = xs.length := by simp [uv]
theorem uv_get {xs : List Nat} {j : Nat} {u : Value} (h : (uv xs)[j]? = some u) : j < xs.length ∧ u = .int .u64 (xs.getD j 0 : Nat) := by
  unfold uv at h
  rw [List.getElem?_map] at h
  by_cases hj : j < xs.length
  · rw [List.getElem?_eq_getElem hj] at h
    simp at h
    exact ⟨hj, by rw [List.getD_eq_getElem?_getD, List.getElem?_eq_getElem hj]; exact h.symm⟩
  · rw [List.getElem?_eq_none (by omega)] at h; simp at h
theorem uv_at {xs : List Nat} {j : Nat} (hj : j < xs.length) : (uv xs)[j]? = some (.int .u64 (xs.getD j 0 : Nat)) := by
  unfold uv
  rw [List.getElem?_map, List.getElem?_eq_getElem hj, List.getD_eq_getElem?_getD, List.getElem?_eq_getElem hj]; rfl
theorem uv_one {xs : List Nat} : ∀ u ∈ uv xs, u.oneCell' = true := by
  intro u hu
  simp only [uv, List.mem_map] at hu
  obtain ⟨x, _, rfl⟩ := hu
  rfl
/-- What is owned, as limbs in memory. -/
theorem owned_lrow {w : World} {base : Nat} {t : TypeId} {v : Value} {xs : List Nat} (h : w.ownsRow base t 1 v xs.length (uv xs)) : ∃ ao cap, v = .slice ao xs.length cap ∧ LRow w ao xs ∧ (ao = none → cap = 0) ∧ Frs base ao := by
  obtain ⟨h1, h2⟩ := h
  rcases h2 with ⟨rfl, hn⟩ | ⟨g, cap, cur, rfl, hg, hh, hc⟩
  · exact ⟨none, 0, by rw [hn], Or.inl hn, fun _ => rfl, Frs.none _⟩
  · refine ⟨some ⟨g, 0, none⟩, cap, rfl, Or.inr ⟨g, 0, rfl, fun j hj => ?_⟩, fun h => (by cases h), fun a e => by cases e; exact hg⟩
    have own : w.ownsRow base t 1 (.slice (some ⟨g, 0, none⟩) xs.length cap) xs.length (uv xs) := ⟨h1, Or.inr ⟨g, cap, cur, rfl, hg, hh, hc⟩⟩
    rw [Nat.zero_add, own.cellAt j (by omega), uv_at hj]

/-- Limbs handed back in memory of their own. -/
def GaveL (w : World) (xs : List Nat) (e : Ending) (w' : World) : Prop := ∃ ao' cap', e = .returned (.slice ao' xs.length cap') ∧ LRow w' ao' xs ∧ (ao' = none → cap' = 0 ∧ xs.length = 0) ∧ Frs w.heap.size ao' ∧ Below w.heap.size w w'

/-- Limbs stay where they are if boxes beside them are written. -/
theorem LRow.setCell {w : World} {ao : Option Addr} {xs : List Nat} (h : LRow w ao xs) {p : Addr} (v : Value) (hne : ∀ b off, ao = some ⟨b, off, none⟩ → xs.length ≠ 0 → b ≠ p.block) : LRow (w.setCell p v) ao xs := by
  by_cases hx : xs.length = 0
  · exact Or.inl hx
  · rcases h with h | ⟨b, off, rfl, hc⟩
    · exact Or.inl h
    · refine Or.inr ⟨b, off, rfl, fun j hj => ?_⟩
      have := hne b off rfl hx
      have e : (w.setCell p v).cell? ⟨b, off + j, none⟩ = w.cell? ⟨b, off + j, none⟩ := World.cell?_of_block (w := w) (Below.heap_setCell w p v b this)
      rw [e]; exact hc j hj

theorem LRow.box {w : World} {ao : Option Addr} {xs : List Nat} {B c : Nat} (h : LRow w ao xs) (hf : Frs B ao) (hc : c < B) (o : Nat) (v : Value) : LRow (w.setCell ⟨c, o, none⟩ v) ao xs :=
  h.setCell v fun b off e _ => by have h1 := hf _ e; have h2 : B ≤ b := h1; show b ≠ c; omega

theorem sameL_eq {xs ys : List Nat} (h : xs.length = ys.length) (hk : ∀ j, j < xs.length → xs.getD j 0 = ys.getD j 0) : xs = ys := by
  apply List.ext_getElem h
  intro i h1 h2
  have := hk i h1
  rw [List.getD_eq_getElem?_getD, List.getD_eq_getElem?_getD, List.getElem?_eq_getElem h1, List.getElem?_eq_getElem h2] at this
  exact this

end Go.Proofs.Ytbnjjoaippoinaa

namespace Go.Proofs.Ytbnjjoaippoinaa
open Go.RowKit

/-- Which of two numbers is greater. -/
def cmpI (x y : Int) : Int := if x < y then -1 else if y < x then 1 else 0
theorem cmpI_bd (x y : Int) : -1 ≤ cmpI x y ∧ cmpI x y ≤ 1 := by unfold cmpI; (repeat' split) <;> omega
/-- A dyad's size in units of 2^-65536. -/
def sz (d : Dy) : Nat := vl d.mag * 2 ^ (d.exp + 65536).toNat
theorem bl_mono {x y : Nat} (h : bl x < bl y) : x < y := Nat.lt_of_not_le fun hle => by
  have := bl_le_iff.2 (Nat.lt_of_le_of_lt hle (bl_le_iff.1 (Nat.le_refl (bl x))))
  omega
theorem bl_sz {d : Dy} (h0 : vl d.mag ≠ 0) (he : -65536 ≤ d.exp) : (bl (sz d) : Int) = bl (vl d.mag) + d.exp + 65536 := by
  unfold sz; rw [bl_mul_pow h0]; omega
/-- A size, its highest bit at the top of n limbs. -/
def upA (v n : Nat) : Nat := v * 2 ^ (64 * n - bl v)
theorem upA_lt {v n : Nat} (h : bl v ≤ 64 * n) : upA v n < 2 ^ (64 * n) := by
  unfold upA
  have h1 : v < 2 ^ bl v := bl_le_iff.1 (Nat.le_refl _)
  calc v * 2 ^ (64 * n - bl v) < 2 ^ bl v * 2 ^ (64 * n - bl v) := Nat.mul_lt_mul_of_pos_right h1 (Nat.two_pow_pos _)
    _ = 2 ^ (64 * n) := by rw [← Nat.pow_add, show bl v + (64 * n - bl v) = 64 * n by omega]
theorem win_top {v n i : Nat} (h : bl v ≤ 64 * n) (hi : i < n) : win v ((bl v : Int) - ((i : Int) + 1) * 64) = upA v n / 2 ^ (64 * (n - 1 - i)) % 18446744073709551616 := by
  have := win_up v (64 * n - bl v) (n - 1 - i)
  unfold upA
  rw [← this]
  congr 1
  omega
theorem upA_sz {d : Dy} {n T : Nat} (_h0 : vl d.mag ≠ 0) (he : -65536 ≤ d.exp) (h : bl (vl d.mag) ≤ 64 * n) (hT : (T : Int) = bl (vl d.mag) + d.exp + 65536) : upA (vl d.mag) n * 2 ^ T = sz d * 2 ^ (64 * n) := by
  unfold upA sz
  rw [Nat.mul_assoc, ← Nat.pow_add, Nat.mul_assoc, ← Nat.pow_add, show 64 * n - bl (vl d.mag) + T = (d.exp + 65536).toNat + 64 * n by omega]
/-- Where the tops are one: which is greater is told by the sizes laid at the top. -/
theorem cmp_top {a b : Dy} {n : Nat} (a0 : vl a.mag ≠ 0) (b0 : vl b.mag ≠ 0) (ea : -65536 ≤ a.exp) (eb : -65536 ≤ b.exp) (ha : bl (vl a.mag) ≤ 64 * n) (hb : bl (vl b.mag) ≤ 64 * n)
    (ht : (bl (vl a.mag) : Int) + a.exp = bl (vl b.mag) + b.exp) :
    (upA (vl a.mag) n < upA (vl b.mag) n → sz a < sz b) ∧ (upA (vl b.mag) n < upA (vl a.mag) n → sz b < sz a) ∧ (upA (vl a.mag) n = upA (vl b.mag) n → sz a = sz b) := by
  have e1 := upA_sz (T := (bl (vl a.mag) + a.exp + 65536 : Int).toNat) a0 ea ha (by omega)
  have e2 := upA_sz (T := (bl (vl a.mag) + a.exp + 65536 : Int).toNat) b0 eb hb (by omega)
  generalize (bl (vl a.mag) + a.exp + 65536 : Int).toNat = T at *
  have hp := Nat.two_pow_pos T
  have hq := Nat.two_pow_pos (64 * n)
  refine ⟨fun h => ?_, fun h => ?_, fun h => ?_⟩
  · have := Nat.mul_lt_mul_of_pos_right h hp
    rw [e1, e2] at this
    exact Nat.lt_of_mul_lt_mul_right this
  · have := Nat.mul_lt_mul_of_pos_right h hp
    rw [e1, e2] at this
    exact Nat.lt_of_mul_lt_mul_right this
  · rw [h, e2] at e1
    exact Nat.eq_of_mul_eq_mul_right hq e1.symm

end Go.Proofs.Ytbnjjoaippoinaa

namespace Go.Proofs.Ytbnjjoaippoinaa
open Go.RowKit

theorem cmpI_lt {x y : Int} (h : x < y) : cmpI x y = -1 := by unfold cmpI; rw [if_pos h]
theorem cmpI_gt {x y : Int} (h : y < x) : cmpI x y = 1 := by unfold cmpI; rw [if_neg (by omega), if_pos h]
theorem cmpI_eq {x y : Int} (h : x = y) : cmpI x y = 0 := by unfold cmpI; rw [if_neg (by omega), if_neg (by omega)]
theorem cmpI_zero {x y : Int} (h : cmpI x y = 0) : x = y := by unfold cmpI at h; (repeat' split at h) <;> omega
/-- Six cells read anew behind a call. -/
theorem six_on {w1 w2 : World} (h : Below w1.heap.size w1 w2) {p q : Nat} {x0 x1 x2 y0 y1 y2 : Value}
    (hc : w1.cell? ⟨p, 0, none⟩ = some x0 ∧ w1.cell? ⟨p, 1, none⟩ = some x1 ∧ w1.cell? ⟨p, 2, none⟩ = some x2 ∧ w1.cell? ⟨q, 0, none⟩ = some y0 ∧ w1.cell? ⟨q, 1, none⟩ = some y1 ∧ w1.cell? ⟨q, 2, none⟩ = some y2) :
    w2.cell? ⟨p, 0, none⟩ = some x0 ∧ w2.cell? ⟨p, 1, none⟩ = some x1 ∧ w2.cell? ⟨p, 2, none⟩ = some x2 ∧ w2.cell? ⟨q, 0, none⟩ = some y0 ∧ w2.cell? ⟨q, 1, none⟩ = some y1 ∧ w2.cell? ⟨q, 2, none⟩ = some y2 := by
  have one : ∀ (b o : Nat) (v : Value), w1.cell? ⟨b, o, none⟩ = some v → w2.cell? ⟨b, o, none⟩ = some v := fun b o v hc => by
    rw [h.cell (World.block_lt_of_cell? w1 _ hc)]; exact hc
  exact ⟨one _ _ _ hc.1, one _ _ _ hc.2.1, one _ _ _ hc.2.2.1, one _ _ _ hc.2.2.2.1, one _ _ _ hc.2.2.2.2.1, one _ _ _ hc.2.2.2.2.2⟩
theorem two_box (w : World) (x0 x1 x2 y0 y1 y2 : Value) (s t : TypeId) :
    let W := ((w.alloc (.cells #[x0, x1, x2] s)).alloc (.cells #[y0, y1, y2] t)).drew
    W.cell? ⟨w.heap.size, 0, none⟩ = some x0 ∧ W.cell? ⟨w.heap.size, 1, none⟩ = some x1 ∧ W.cell? ⟨w.heap.size, 2, none⟩ = some x2 ∧ W.cell? ⟨w.heap.size + 1, 0, none⟩ = some y0 ∧ W.cell? ⟨w.heap.size + 1, 1, none⟩ = some y1 ∧ W.cell? ⟨w.heap.size + 1, 2, none⟩ = some y2 := by
  refine ⟨?_, ?_, ?_, ?_, ?_, ?_⟩ <;> go_simp

end Go.Proofs.Ytbnjjoaippoinaa

namespace Go.Proofs.Ytbnjjoaippoinaa
open Go.RowKit

/-- The word of kept times 2^last, kept of 53 bits, or last the least place. -/
def rW (kept : Nat) (last : Int) : Nat := (last + 1074).toNat * 4503599627370496 + kept
theorem jR_eq {f k : Nat} {e : Int} (h0 : f ≠ 0) (hlt : f * 2 ^ k < 9007199254740992) (he : -1074 ≤ e - k) (hor : e - k = -1074 ∨ 4503599627370496 ≤ f * 2 ^ k) : jR f e = rW (f * 2 ^ k) (e - k) := by
  have hl : (f * 2 ^ k).log2 = f.log2 + k := log2_mul h0
  have hne : f * 2 ^ k ≠ 0 := by have := Nat.mul_pos (Nat.pos_of_ne_zero h0) (Nat.two_pow_pos k); omega
  have h53 : f.log2 + k < 53 := by rw [← hl]; exact (Nat.log2_lt hne).2 (by omega)
  unfold jR rW jU jM
  by_cases hb : 4503599627370496 ≤ f * 2 ^ k
  · have h52 : f.log2 + k = 52 := by rw [← hl]; exact log2_eq (by omega) (by omega)
    rw [if_pos (by omega), if_pos (by omega), show 52 - f.log2 = k by omega, show (e + (f.log2 : Int) + 1022).toNat = (e - k + 1074).toNat by omega]
  · have h52 : f.log2 + k < 52 := by rw [← hl]; exact (Nat.log2_lt hne).2 (by omega)
    have h1 : e - k = -1074 := by omega
    rw [if_neg (by omega), if_neg (by omega), show (e + 1074).toNat = k by omega, show (e - k + 1074).toNat = 0 by omega]
theorem rW_lt {kept : Nat} {last : Int} (h1 : kept ≤ 9007199254740992) (h2 : last ≤ 971) : rW kept last ≤ 9218868437227405312 := by unfold rW; omega

theorem ofInt_zero : floatOfInt .f64 (0 : Int) = 0 := by decide
theorem ofInt_top : floatOfInt .f64 (9007199254740992 : Int) = 4845873199050653696 := by decide
theorem mul_zero {e : Int} (h1 : -1074 ≤ e) (h2 : e ≤ 1023) : floatBits .mul .f64 0 (pw e) = some 0 := by
  obtain ⟨p1, p2, p3⟩ := pw_ok h1 h2
  have r0 : Ieee.double.read 0 = .number false 0 (-1074) := by decide
  unfold floatBits
  simp only [fmt64, Ieee.Format.mul]
  rw [r0, read_pos p1]
  simp only [Ieee.Datum.product, Option.map_some, Ieee.Format.write, Option.some.injEq]
  rw [Bool.xor_self, Nat.zero_mul]
  unfold Ieee.Format.nearest
  rw [if_pos rfl]; rfl
theorem top_min {e : Int} (h1 : -1074 ≤ e) (h2 : e ≤ 971) : min ((e + 1075).toNat * 4503599627370496 + 4503599627370496) 9218868437227405312 = rW 9007199254740992 e := by unfold rW; omega
theorem top_near {e : Int} (h1 : -1074 ≤ e) : (∃ d : Nat, -1074 + ((1075 : Nat) : Int) + (-1074 + ((if e < -1022 then 0 else (e + 1022).toNat : Nat) : Int)) = ((e + 1075).toNat : Int) - 1074 + d ∧ 4503599627370496 * (if e < -1022 then 2 ^ (e + 1074).toNat else 4503599627370496) * 2 ^ d = 4503599627370496) ∨
    (∃ d : Nat, -1074 + ((1075 : Nat) : Int) + (-1074 + ((if e < -1022 then 0 else (e + 1022).toNat : Nat) : Int)) + d = ((e + 1075).toNat : Int) - 1074 ∧ 4503599627370496 * (if e < -1022 then 2 ^ (e + 1074).toNat else 4503599627370496) = 4503599627370496 * 2 ^ d) := by
  right
  by_cases hc : e < -1022
  · simp only [if_pos hc]
    exact ⟨(e + 1074).toNat, by omega, rfl⟩
  · simp only [if_neg hc]
    exact ⟨52, by omega, by rw [show (2 : Nat) ^ 52 = 4503599627370496 from rfl]⟩
theorem mul_top {e : Int} (h1 : -1074 ≤ e) (h2 : e ≤ 971) : floatBits .mul .f64 4845873199050653696 (pw e) = some (rW 9007199254740992 e) := by
  obtain ⟨p1, p2, p3⟩ := pw_ok h1 (show e ≤ 1023 by omega)
  have t1 : mg 4845873199050653696 = 4503599627370496 := by decide
  have t2 : up 4845873199050653696 = 1075 := by decide
  have n := nearest_val false _ _ 4503599627370496 (e + 1075).toNat (by decide) (by decide) (Or.inr (Nat.le_refl _)) (top_near h1)
  rw [top_min h1 h2, word_pos] at n
  have r1 := read_pos (show 4845873199050653696 < 9218868437227405312 by decide)
  have r2 := read_pos p1
  rw [t1, t2] at r1
  rw [p2, p3] at r2
  unfold floatBits
  simp only [fmt64, Ieee.Format.mul, r1, r2, Ieee.Datum.product, Option.map_some, Ieee.Format.write, Option.some.injEq, Bool.xor_self]
  exact n
/-- The product that rounds nothing. -/
theorem mul_kept {kept : Nat} {last : Int} (hk : kept ≤ 9007199254740992) (h1 : -1074 ≤ last) (h2 : last ≤ 971) (hor : last = -1074 ∨ 4503599627370496 ≤ kept) :
    ∃ c, floatOfInt .f64 (kept : Int) = c ∧ floatBits .mul .f64 c (pw last) = some (rW kept last) := by
  by_cases h0 : kept = 0
  · subst h0
    have : last = -1074 := by omega
    subst this
    exact ⟨0, ofInt_zero, by rw [mul_zero (by omega) (by omega)]; rfl⟩
  · by_cases ht : kept = 9007199254740992
    · subst ht
      exact ⟨_, ofInt_top, mul_top h1 h2⟩
    · have hlt : kept < 9007199254740992 := by omega
      refine ⟨_, ofInt_eq h0 hlt, ?_⟩
      rw [mul_eq h0 hlt h1 (by omega)]
      have e := jR_eq (f := kept) (k := 0) (e := last) h0 (by omega) (by omega) (by rw [Nat.pow_zero, Nat.mul_one]; omega)
      rw [Nat.pow_zero, Nat.mul_one, show last - ((0 : Nat) : Int) = last by omega] at e
      have := rW_lt hk h2
      rw [e, Nat.min_eq_left this]

/-- The last place that is kept. -/
def rLa (v : Nat) (e : Int) : Int := max ((bl v : Int) + e - 53) (-1074)
def rDr (v : Nat) (e : Int) : Int := rLa v e - e
/-- Is what is kept made one greater? (m: 0 Nearest, 2 Up, 3 Zero.) -/
def rUp (v : Nat) (dr : Int) (m : Int) : Bool := if m = 0 then (win v (dr - 1) % 2 == 1) && (decide (1 < dr) || (win v dr % 2 == 1)) else m == 2
def rKp (v : Nat) (e m : Int) : Nat := if 0 < rDr v e ∧ rUp v (rDr v e) m = true then win v (rDr v e) + 1 else win v (rDr v e)
def rSz (v : Nat) (e m : Int) : Nat := if 1024 < (bl v : Int) + e then (if m = 3 then 9218868437227405311 else 9218868437227405312) else rW (rKp v e m) (rLa v e)

/-- What is kept at the last place, before it is made greater: below 2^53, and of 53 bits unless the place is the least. -/
theorem kept_bd {v : Nat} {e : Int} (h0 : v ≠ 0) (hh : (bl v : Int) + e ≤ 1024) : win v (rDr v e) = shr v (rDr v e) ∧ shr v (rDr v e) < 9007199254740992 ∧ -1074 ≤ rLa v e ∧ rLa v e ≤ 971 ∧ (rLa v e = -1074 ∨ 4503599627370496 ≤ shr v (rDr v e)) := by
  have hb := bl_spec h0
  have hla : rLa v e = (bl v : Int) + e - 53 ∨ (rLa v e = -1074 ∧ (bl v : Int) + e - 53 ≤ -1074) := by unfold rLa; omega
  have key : shr v (rDr v e) < 9007199254740992 ∧ (rLa v e = -1074 ∨ 4503599627370496 ≤ shr v (rDr v e)) := by
    unfold shr
    by_cases hd : 0 ≤ rDr v e
    · rw [if_pos hd]
      have e1 : bl (v / 2 ^ (rDr v e).toNat) = bl v - (rDr v e).toNat := bl_div
      have hle : bl (v / 2 ^ (rDr v e).toNat) ≤ 53 := by rw [e1]; unfold rDr at *; omega
      refine ⟨by have := bl_le_iff.1 hle; omega, ?_⟩
      rcases hla with h | ⟨h, _⟩
      · right
        have e2 : bl (v / 2 ^ (rDr v e).toNat) = 53 := by rw [e1]; unfold rDr at *; omega
        have hn : v / 2 ^ (rDr v e).toNat ≠ 0 := by intro hz; rw [hz] at e2; simp [bl] at e2
        have := (bl_spec hn).1
        rw [e2] at this
        omega
      · exact Or.inl h
    · rw [if_neg hd]
      have e1 : bl (v * 2 ^ (-(rDr v e)).toNat) = bl v + (-(rDr v e)).toNat := bl_mul_pow h0
      have hle : bl (v * 2 ^ (-(rDr v e)).toNat) ≤ 53 := by rw [e1]; unfold rDr at *; omega
      refine ⟨by have := bl_le_iff.1 hle; omega, ?_⟩
      rcases hla with h | ⟨h, _⟩
      · right
        have e2 : bl (v * 2 ^ (-(rDr v e)).toNat) = 53 := by rw [e1]; unfold rDr at *; omega
        have hn : v * 2 ^ (-(rDr v e)).toNat ≠ 0 := by intro hz; rw [hz] at e2; simp [bl] at e2
        have := (bl_spec hn).1
        rw [e2] at this
        omega
      · exact Or.inl h
  refine ⟨by unfold win; rw [Nat.mod_eq_of_lt (by omega)], key.1, by unfold rLa; omega, by unfold rLa; omega, key.2⟩

/-- The parts of a finite float that is not nought, by its magnitude. -/
theorem sp_parts {a : Nat} (h0 : rung a ≠ 0) : spF a * 2 ^ spZ a = mg (rung a) ∧ spF a % 2 = 1 ∧ spE a = (up (rung a) : Int) - 1074 + spZ a := by
  have hlt := mg_lt (rung a)
  have hne := mg_ne h0
  obtain ⟨m, hm, hz⟩ := Lib.ctzFrom_spec 64 (mg (rung a)) (by omega) (by omega)
  have e : spZ a = Lib.ctzFrom 64 (mg (rung a)) := by unfold spZ Lib.ctz; rw [if_neg hne]
  rw [← e] at hm
  have hF : spF a = 2 * m + 1 := by
    unfold spF; rw [if_neg h0]
    rw [Nat.div_eq_of_eq_mul_right (Nat.two_pow_pos _) hm]
  exact ⟨by rw [hF, hm, Nat.mul_comm], by omega, by unfold spE; rw [if_neg h0]⟩
theorem sp_bd {a : Nat} (hf : finB a = true) (h0 : rung a ≠ 0) : spF a ≠ 0 ∧ spF a < 9007199254740992 ∧ spZ a < 53 ∧ -1074 ≤ spE a ∧ spE a ≤ 1023 ∧ up (rung a) < 2046 := by
  obtain ⟨p1, p2, p3⟩ := sp_parts h0
  have hlt := mg_lt (rung a)
  have hr : rung a < 9218868437227405312 := by unfold finB at hf; simpa using hf
  have hu : up (rung a) < 2046 := by unfold up; split <;> omega
  have h1 : spF a ≤ spF a * 2 ^ spZ a := Nat.le_mul_of_pos_right _ (Nat.two_pow_pos _)
  have h2 : 2 ^ spZ a ≤ spF a * 2 ^ spZ a := Nat.le_mul_of_pos_left _ (by omega)
  have h3 : 2 ^ spZ a < 2 ^ 53 := by omega
  have h4 : spZ a < 53 := (Nat.pow_lt_pow_iff_right (by omega : 1 < 2)).1 h3
  omega
theorem sp_join {a : Nat} (hf : finB a = true) (h0 : rung a ≠ 0) : jR (spF a) (spE a) = rung a ∧ okP (spF a) (spE a) = true := by
  obtain ⟨p1, p2, p3⟩ := sp_parts h0
  obtain ⟨b1, b2, b3, b4, b5, b6⟩ := sp_bd hf h0
  have hlt := mg_lt (rung a)
  have hm := mg_up_ok (rung a)
  have hg := rung_mg (rung a)
  have e := jR_eq (f := spF a) (k := spZ a) (e := spE a) b1 (by rw [p1]; exact hlt) (by omega) (by rw [p1]; omega)
  rw [p1] at e
  have e2 : jR (spF a) (spE a) = rung a := by
    rw [e]; unfold rW
    rw [show spE a - (spZ a : Int) + 1074 = (up (rung a) : Int) by omega, Int.toNat_natCast]
    omega
  have hr : rung a < 9218868437227405312 := by unfold finB at hf; simpa using hf
  refine ⟨e2, ?_⟩
  unfold okP; rw [if_neg b1, e2]; simp; omega
/-- A float's own dyad is rounded to it. -/
theorem rSz_self {a : Nat} (hf : finB a = true) (h0 : rung a ≠ 0) (m : Int) : rSz (spF a) (spE a) m = rung a := by
  obtain ⟨p1, p2, p3⟩ := sp_parts h0
  obtain ⟨b1, b2, b3, b4, b5, b6⟩ := sp_bd hf h0
  have hlt := mg_lt (rung a)
  have hm := mg_up_ok (rung a)
  have hg := rung_mg (rung a)
  have hbl : bl (mg (rung a)) = bl (spF a) + spZ a := by rw [← p1]; exact bl_mul_pow b1
  have hle : bl (mg (rung a)) ≤ 53 := bl_le_iff.2 (by omega)
  have hge : up (rung a) = 0 ∨ bl (mg (rung a)) = 53 := by
    rcases hm with h | h
    · exact Or.inl h
    · exact Or.inr (bl_of (n := 52) (by omega) (by omega))
  have hla : rLa (spF a) (spE a) = (up (rung a) : Int) - 1074 := by unfold rLa; omega
  have hdr : rDr (spF a) (spE a) = -(spZ a : Int) := by unfold rDr; omega
  have hw : win (spF a) (rDr (spF a) (spE a)) = mg (rung a) := by
    rw [hdr]; unfold win shr
    by_cases hz : spZ a = 0
    · rw [if_pos (by omega), show (-(spZ a : Int)).toNat = 0 by omega, Nat.pow_zero, Nat.div_one]
      rw [hz, Nat.pow_zero, Nat.mul_one] at p1
      omega
    · rw [if_neg (by omega), show (- -(spZ a : Int)).toNat = spZ a by omega, p1]
      omega
  unfold rSz
  rw [if_neg (by omega)]
  unfold rKp
  rw [if_neg (by omega), hw, hla]
  unfold rW
  rw [show (up (rung a) : Int) - 1074 + 1074 = (up (rung a) : Int) by omega, Int.toNat_natCast]
  omega
end Go.Proofs.Ytbnjjoaippoinaa

namespace Go.Proofs.Ytbnjjoaippoinaa
open Go.RowKit

/-- How a size is rounded. -/
def szm (neg : Bool) (m : Int) : Int := if m = 3 ∨ (m = 1 ∧ neg = false) ∨ (m = 2 ∧ neg = true) then 3 else if m = 1 ∨ m = 2 then 2 else 0
theorem szm_is (neg : Bool) (m : Int) : szm neg m = 0 ∨ szm neg m = 2 ∨ szm neg m = 3 := by unfold szm; (repeat' split) <;> simp

theorem join_one {last : Int} (h1 : -1074 ≤ last) (h2 : last ≤ 971) : joinF false 1 last = pw last ∧ okP 1 last = true := by
  have l1 : Nat.log2 1 = 0 := by decide
  have e : jR 1 last = pw last := by
    unfold jR jU jM pw
    rw [l1]
    by_cases hc : last < -1022
    · rw [if_neg (by omega), if_neg (by omega), if_pos hc]; omega
    · rw [if_pos (by omega), if_pos (by omega), if_neg hc]; omega
  have hp := (pw_ok h1 (show last ≤ 1023 by omega)).1
  have hk : okP 1 last = true := by unfold okP; rw [if_neg (by omega), e]; simp; omega
  refine ⟨?_, hk⟩
  simp [joinF, valR, hk, e]

theorem inf1_any (w : World) : Calls Try.prog 21 #[.int .i64 1] w fun e w' => e = .returned (.float .f64 9218868437227405312) ∧ w' = w := by
  have ff := run_ffrom
  go_enter Try.func21, Try.ntmps21
  go_wp2
  go_ret
  exact ⟨rfl, rfl⟩

theorem one_box {w w1 : World} {x0 x1 x2 : Value} {s : TypeId} (hb : Below (w.alloc (.cells #[x0, x1, x2] s)).heap.size (w.alloc (.cells #[x0, x1, x2] s)) w1) :
    (w1.cell? ⟨w.heap.size, 0, none⟩ = some x0 ∧ w1.cell? ⟨w.heap.size, 1, none⟩ = some x1 ∧ w1.cell? ⟨w.heap.size, 2, none⟩ = some x2) ∧ Below w.heap.size w w1 := by
  obtain ⟨hc, hf⟩ := oldc hb
  have l0 : w.heap.size < (w.alloc (.cells #[x0, x1, x2] s)).heap.size := by go_simp
  refine ⟨⟨?_, ?_, ?_⟩, ((Below.refl _ _).alloc (Nat.le_refl _) _).trans (hb.mono (by omega))⟩
  · rw [hc _ _ l0]; go_simp
  · rw [hc _ _ l0]; go_simp
  · rw [hc _ _ l0]; go_simp
end Go.Proofs.Ytbnjjoaippoinaa

namespace Go.Proofs.Ytbnjjoaippoinaa
open Go.RowKit

end Go.Proofs.Ytbnjjoaippoinaa

namespace Go.Proofs.Ytbnjjoaippoinaa
open Go.RowKit

theorem ret2U {a b c d : Int} (h : a = b) (g : c = d) : Ending.returned (.tuple #[.int .u64 a, .int .u64 c]) = .returned (.tuple #[.int .u64 b, .int .u64 d]) := by rw [h, g]

theorem wrapU_bd (n : Int) : 0 ≤ IntKind.u64.wrap n ∧ IntKind.u64.wrap n < 18446744073709551616 := by rw [IntKind.wrap_u64]; omega
theorem mul64_high (x y : Int) (hx0 : 0 ≤ x) (hx : x < 18446744073709551616) (hy0 : 0 ≤ y) (hy : y < 18446744073709551616) :
    IntKind.u64.wrap (IntKind.u64.wrap (IntKind.u64.wrap (x / 4294967296 * (y / 4294967296)) + IntKind.u64.wrap (IntKind.u64.wrap (x / 4294967296 * (y % 4294967296)) + IntKind.u64.wrap (x % 4294967296 * (y % 4294967296)) / 4294967296) / 4294967296) +
      IntKind.u64.wrap (bits BinOp.and IntKind.u64 (IntKind.u64.wrap (IntKind.u64.wrap (x / 4294967296 * (y % 4294967296)) + IntKind.u64.wrap (x % 4294967296 * (y % 4294967296)) / 4294967296)) 4294967295 + IntKind.u64.wrap (x % 4294967296 * (y / 4294967296))) / 4294967296) = x * y / 18446744073709551616 := by
  have t := wrapU_bd (IntKind.u64.wrap (x / 4294967296 * (y % 4294967296)) + IntKind.u64.wrap (x % 4294967296 * (y % 4294967296)) / 4294967296)
  rw [and_low32 _ t.1 t.2]
  simp only [IntKind.wrap_u64]
  exact mul64_arith x y hx0 hx hy0 hy

/-- One limb of a row: what the three steps come to. -/
theorem times_step {x b t c : Int} (hx0 : 0 ≤ x) (hx : x < 18446744073709551616) (hb0 : 0 ≤ b) (hb : b < 18446744073709551616) (ht0 : 0 ≤ t) (ht : t < 18446744073709551616) (hc0 : 0 ≤ c) (hc : c < 18446744073709551616) :
    ((x * b % 18446744073709551616 + t) % 18446744073709551616 + c) % 18446744073709551616 = (x * b + t + c) % 18446744073709551616 ∧
    x * b / 18446744073709551616 + (x * b % 18446744073709551616 + t) / 18446744073709551616 + ((x * b % 18446744073709551616 + t) % 18446744073709551616 + c) / 18446744073709551616 = (x * b + t + c) / 18446744073709551616 ∧
    x * b / 18446744073709551616 + (x * b % 18446744073709551616 + t) / 18446744073709551616 < 18446744073709551616 ∧ (x * b + t + c) / 18446744073709551616 < 18446744073709551616 ∧ 0 ≤ x * b / 18446744073709551616 := by
  have p0 : 0 ≤ x * b := Int.mul_nonneg hx0 hb0
  have p1 : x * b ≤ 18446744073709551615 * 18446744073709551615 := Int.mul_le_mul (by omega) (by omega) hb0 (by omega)
  generalize x * b = p at *
  omega
end Go.Proofs.Ytbnjjoaippoinaa

namespace Go.Proofs.Ytbnjjoaippoinaa
open Go.RowKit

/-- A row of n cells, those from off on replaced by a list. -/
def laidF (f : Nat → Nat) (off k : Nat) (out : List Nat) (j : Nat) : Nat := if off ≤ j ∧ j < off + k then out.getD (j - off) 0 else f j
theorem laidF_zero (f : Nat → Nat) (off : Nat) (out : List Nat) (j : Nat) : laidF f off 0 out j = f j := by unfold laidF; rw [if_neg (by omega)]
theorem laidF_snoc {f : Nat → Nat} {off k : Nat} {out : List Nat} (hl : out.length = k) (v j : Nat) : (if j = off + k then v else laidF f off k out j) = laidF f off (k + 1) (out ++ [v]) j := by
  unfold laidF
  by_cases h : j = off + k
  · rw [if_pos h, if_pos (by omega), h, show off + k - off = k by omega, List.getD_eq_getElem?_getD, List.getElem?_append_right (by omega)]
    simp [hl]
  · rw [if_neg h]
    by_cases h2 : off ≤ j ∧ j < off + k
    · rw [if_pos h2, if_pos (by omega), List.getD_eq_getElem?_getD, List.getD_eq_getElem?_getD, List.getElem?_append_left (by omega)]
    · rw [if_neg h2, if_neg (by omega)]
/-- The answer of addTimes: the limbs laid down, what is carried. -/
def GaveRow (w0 : World) (L : Nat) (f : Nat → Nat) (off : Nat) (t xs : List Nat) (b : Nat) (e : Ending) (w' : World) : Prop :=
  ∃ out c : _, e = .returned (.int .u64 ((c : Nat) : Int)) ∧ Rowed t xs b xs.length out c ∧ FRow w' w0.heap.size L (laidF f off xs.length out) ∧ Below w0.heap.size w0 w'

end Go.Proofs.Ytbnjjoaippoinaa

namespace Go.Proofs.Ytbnjjoaippoinaa
open Go.RowKit

/-- The number of the first n limbs that a function tells. -/
def vF : Nat → (Nat → Nat) → Nat
  | 0, _ => 0
  | n + 1, f => vF n f + 2 ^ (64 * n) * f n
theorem vF_congr {n : Nat} {f g : Nat → Nat} (h : ∀ j, j < n → f j = g j) : vF n f = vF n g := by
  induction n with
  | zero => rfl
  | succ n ih => rw [vF, vF, ih (fun j hj => h j (by omega)), h n (by omega)]
theorem vF_zero {n : Nat} {f : Nat → Nat} (h : ∀ j, j < n → f j = 0) : vF n f = 0 := by
  induction n with
  | zero => rfl
  | succ n ih => rw [vF, ih (fun j hj => h j (by omega)), h n (by omega), Nat.mul_zero]
theorem vF_split (a b : Nat) (f : Nat → Nat) : vF (a + b) f = vF a f + 2 ^ (64 * a) * vF b (fun j => f (a + j)) := by
  induction b with
  | zero => simp [vF]
  | succ b ih =>
    rw [← Nat.add_assoc, vF, vF, ih, show 64 * (a + b) = 64 * a + 64 * b by omega, Nat.pow_add, Nat.mul_add, Nat.mul_assoc, Nat.add_assoc]
theorem vF_list (xs : List Nat) : ∀ k, k ≤ xs.length → vF k (fun j => xs.getD j 0) = vl (xs.take k)
  | 0, _ => by simp [vF, vl]
  | k + 1, h => by rw [vF, vF_list xs k (by omega), vl_take_succ (by omega)]
/-- Limbs as a list out of a function. -/
def toL (n : Nat) (f : Nat → Nat) : List Nat := (List.range n).map f
theorem toL_length (n : Nat) (f : Nat → Nat) : (toL n f).length = n := by simp [toL]
theorem toL_getD {n : Nat} {f : Nat → Nat} {j : Nat} (h : j < n) : (toL n f).getD j 0 = f j := by simp [toL, List.getD_eq_getElem?_getD, h]
theorem toL_vl (n : Nat) (f : Nat → Nat) : vl (toL n f) = vF n f := by
  have := vF_list (toL n f) n (by rw [toL_length]; omega)
  rw [List.take_of_length_le (by rw [toL_length]; omega)] at this
  rw [← this]
  exact vF_congr fun j hj => toL_getD hj
theorem toL_lm {n : Nat} {f : Nat → Nat} (h : ∀ j, j < n → f j < 18446744073709551616) : Lm (toL n f) := by
  intro x hx
  simp only [toL, List.mem_map, List.mem_range] at hx
  obtain ⟨j, hj, rfl⟩ := hx
  exact h j hj
/-- The product so far. -/
def Prod' (xs ys : List Nat) (n k : Nat) (f : Nat → Nat) : Prop := (∀ j, j < n → f j < 18446744073709551616) ∧ vF n f = vl (xs.take k) * vl ys ∧ ∀ j, k + ys.length ≤ j → f j = 0
theorem prod_nil (xs ys : List Nat) (n : Nat) : Prod' xs ys n 0 (fun _ => 0) := ⟨fun _ _ => (show 0 < 18446744073709551616 by omega), by rw [vF_zero (fun _ _ => rfl)]; simp [vl], fun _ _ => rfl⟩
theorem prod_step {xs ys : List Nat} {n k : Nat} {f : Nat → Nat} {out : List Nat} {c : Nat} (h : Prod' xs ys n k f) (hn : n = xs.length + ys.length) (hk : k < xs.length)
    (hR : Rowed (toL ys.length fun j => f (k + j)) ys (xs.getD k 0) ys.length out c) :
    Prod' xs ys n (k + 1) (fun j => if j = k + ys.length then c else laidF f k ys.length out j) := by
  obtain ⟨h1, h2, h3⟩ := h
  obtain ⟨r1, r2, r3, r4⟩ := hR
  have ht : (toL ys.length fun j => f (k + j)).take ys.length = toL ys.length fun j => f (k + j) := List.take_of_length_le (by rw [toL_length]; omega)
  rw [ht, toL_vl, List.take_length] at r4
  refine ⟨fun j hj => ?_, ?_, fun j hj => ?_⟩
  · by_cases e : j = k + ys.length
    · simp only [e, if_true]; exact r3
    · simp only [e, if_false]
      unfold laidF
      split
      · exact r1.getD _
      · exact h1 j hj
  · obtain ⟨r, hr⟩ : ∃ r, n = k + (ys.length + (1 + r)) := ⟨n - k - ys.length - 1, by omega⟩
    rw [hr, vF_split, vF_split, vF_split] at h2 ⊢
    have e1 : vF k (fun j => if j = k + ys.length then c else laidF f k ys.length out j) = vF k f := vF_congr fun j hj => by
      simp only [show j ≠ k + ys.length by omega, if_false]; unfold laidF; rw [if_neg (by omega)]
    have e2 : vF ys.length (fun j => if k + j = k + ys.length then c else laidF f k ys.length out (k + j)) = vl out := by
      have := vF_list out ys.length (by omega)
      rw [List.take_of_length_le (by omega)] at this
      rw [← this]
      exact vF_congr fun j hj => by
        simp only [show ¬ k + j = k + ys.length by omega, if_false]; unfold laidF; rw [if_pos (by omega), show k + j - k = j by omega]
    have e3 : vF 1 (fun j => if k + (ys.length + j) = k + ys.length then c else laidF f k ys.length out (k + (ys.length + j))) = c := by
      simp [vF]
    have e4 : vF r (fun j => if k + (ys.length + (1 + j)) = k + ys.length then c else laidF f k ys.length out (k + (ys.length + (1 + j)))) = 0 := vF_zero fun j hj => by
      simp only [show ¬ k + (ys.length + (1 + j)) = k + ys.length by omega, if_false]; unfold laidF; rw [if_neg (by omega)]; exact h3 _ (by omega)
    have e5 : vF 1 (fun j => f (k + (ys.length + j))) = 0 := vF_zero fun j _ => h3 _ (by omega)
    have e6 : vF r (fun j => f (k + (ys.length + (1 + j)))) = 0 := vF_zero fun j _ => h3 _ (by omega)
    rw [e1, e2, e3, e4, Nat.mul_zero, Nat.add_zero, r4]
    rw [e5, e6, Nat.mul_zero, Nat.add_zero] at h2
    rw [vl_take_succ hk, Nat.add_mul, ← h2, Nat.mul_add, ← Nat.add_assoc, Nat.mul_assoc, Nat.mul_comm (xs.getD k 0)]
  · have hj' : (k + 1) + ys.length ≤ j := hj
    simp only [show j ≠ k + ys.length by omega, if_false]
    unfold laidF; rw [if_neg (by omega)]; exact h3 j (by omega)

def GaveP (w : World) (xs ys : List Nat) (e : Ending) (w' : World) : Prop :=
  ∃ (n : Nat) (f : Nat → Nat), e = .returned (.slice (some ⟨w.heap.size, 0, none⟩) n (xs.length + ys.length)) ∧ n ≤ xs.length + ys.length ∧ (∀ j, j < n → f j < 18446744073709551616) ∧ vF n f = vl xs * vl ys ∧ LRow w' (some ⟨w.heap.size, 0, none⟩) (toL n f) ∧ Below w.heap.size w w'

theorem FRow.lrowL {w : World} {b n : Nat} {f : Nat → Nat} (h : FRow w b n f) : LRow w (some ⟨b, 0, none⟩) (toL n f) := h.lrow (toL_length _ _) (fun _ hj => toL_getD hj)
/-- The first limbs of a row. -/
theorem LRow.cutL {w : World} {ao : Option Addr} {n m : Nat} {f : Nat → Nat} (h : LRow w ao (toL n f)) (hm : m ≤ n) : LRow w ao (toL m f) := by
  by_cases h0 : m = 0
  · exact Or.inl (by rw [toL_length]; exact h0)
  rcases h with h | ⟨b, o, rfl, hc⟩
  · rw [toL_length] at h; omega
  · refine Or.inr ⟨b, o, rfl, fun j hj => ?_⟩
    rw [toL_length] at hj
    rw [hc j (by rw [toL_length]; omega), toL_getD (by omega), toL_getD hj]
/-- How many limbs a number needs, and that the others are noughts. -/
theorem trim_vF {n : Nat} {f : Nat → Nat} (h : ∀ j, j < n → f j < 18446744073709551616) : (bl (vF n f) + 63) / 64 ≤ n ∧ vF ((bl (vF n f) + 63) / 64) f = vF n f := by
  have hb : ∀ m, (∀ j, j < m → f j < 18446744073709551616) → vF m f < 2 ^ (64 * m) := fun m hm => by
    induction m with
    | zero => simp [vF]
    | succ m ih =>
      have i1 := ih (fun j hj => hm j (by omega))
      have i2 := hm m (by omega)
      rw [vF, show 64 * (m + 1) = 64 * m + 64 by omega, Nat.pow_add, p64]
      have : 2 ^ (64 * m) * f m ≤ 2 ^ (64 * m) * 18446744073709551615 := Nat.mul_le_mul_left _ (by omega)
      omega
  have h1 := hb n h
  have h2 : bl (vF n f) ≤ 64 * n := bl_le_iff.2 h1
  refine ⟨by omega, ?_⟩
  obtain ⟨m, hm⟩ : ∃ m, (bl (vF n f) + 63) / 64 = m := ⟨_, rfl⟩
  rw [hm]
  obtain ⟨r, rfl⟩ : ∃ r, n = m + r := ⟨n - m, by omega⟩
  have h3 : vF (m + r) f < 2 ^ (64 * m) := bl_le_iff.1 (by omega)
  rw [vF_split] at h3 ⊢
  have h4 : vF r (fun j => f (m + j)) = 0 := by
    rcases Nat.eq_zero_or_pos (vF r (fun j => f (m + j))) with h | h
    · exact h
    · have := Nat.mul_le_mul_left (2 ^ (64 * m)) h
      omega
  rw [h4, Nat.mul_zero, Nat.add_zero]

end Go.Proofs.Ytbnjjoaippoinaa

namespace Go.Proofs.Ytbnjjoaippoinaa
open Go.RowKit

end Go.Proofs.Ytbnjjoaippoinaa

namespace Go.Proofs.Ytbnjjoaippoinaa
open Go.RowKit

theorem sv_mul {a b : Dy} {zs : List Nat} {e : Int} (hz : vl zs = vl a.mag * vl b.mag) : sv ⟨a.neg != b.neg, zs, e⟩ = sv a * sv b := by
  unfold sv
  simp only [hz, Int.natCast_mul]
  cases a.neg <;> cases b.neg <;> simp [Int.neg_mul, Int.mul_neg]
theorem mul_norm {a b : Dy} (ha : rightB a = true) (hb : rightB b = true) {zs : List Nat} (hz : vl zs = vl a.mag * vl b.mag) : normD ⟨a.neg != b.neg, zs, a.exp + b.exp⟩ = mulD a b := by
  have xa := right_exp ha
  have xb := right_exp hb
  unfold mulD
  rw [ha, hb]
  simp only [Bool.and_self, if_true]
  have := nrm_shift (sv a * sv b) (a.exp + b.exp) ((a.exp + 65536).toNat + (b.exp + 65536).toNat)
  rw [show a.exp + b.exp - (((a.exp + 65536).toNat + (b.exp + 65536).toNat : Nat) : Int) = -131072 by omega, pow_add_int] at this
  unfold normD
  rw [sv_mul hz, ← this]
  unfold qd
  congr 1
  rw [Int.mul_assoc, Int.mul_assoc, Int.mul_left_comm (sv b)]

/-- Three boxes of three cells, behind a call that turned nothing old. -/
theorem box3 {w w1 : World} {x0 x1 x2 y0 y1 y2 z0 z1 z2 : Value} {s t u : TypeId} (hb : Below (((w.alloc (.cells #[x0, x1, x2] s)).alloc (.cells #[y0, y1, y2] t)).alloc (.cells #[z0, z1, z2] u)).heap.size (((w.alloc (.cells #[x0, x1, x2] s)).alloc (.cells #[y0, y1, y2] t)).alloc (.cells #[z0, z1, z2] u)) w1) :
    (w1.cell? ⟨w.heap.size, 0, none⟩ = some x0 ∧ w1.cell? ⟨w.heap.size, 1, none⟩ = some x1 ∧ w1.cell? ⟨w.heap.size, 2, none⟩ = some x2 ∧
    w1.cell? ⟨w.heap.size + 1, 0, none⟩ = some y0 ∧ w1.cell? ⟨w.heap.size + 1, 1, none⟩ = some y1 ∧ w1.cell? ⟨w.heap.size + 1, 2, none⟩ = some y2) ∧
    (w1.cell? ⟨w.heap.size + 1 + 1, 0, none⟩ = some z0 ∧ w1.cell? ⟨w.heap.size + 1 + 1, 1, none⟩ = some z1 ∧ w1.cell? ⟨w.heap.size + 1 + 1, 2, none⟩ = some z2) ∧
    (w1.frozen? ⟨w.heap.size + 1 + 1, 0, none⟩ = false ∧ w1.frozen? ⟨w.heap.size + 1 + 1, 1, none⟩ = false ∧ w1.frozen? ⟨w.heap.size + 1 + 1, 2, none⟩ = false) ∧ Below w.heap.size w w1 := by
  obtain ⟨hc, hf⟩ := oldc hb
  have l0 : w.heap.size < (((w.alloc (.cells #[x0, x1, x2] s)).alloc (.cells #[y0, y1, y2] t)).alloc (.cells #[z0, z1, z2] u)).heap.size := by go_simp
  have l1 : w.heap.size + 1 < (((w.alloc (.cells #[x0, x1, x2] s)).alloc (.cells #[y0, y1, y2] t)).alloc (.cells #[z0, z1, z2] u)).heap.size := by go_simp
  have l2 : w.heap.size + 1 + 1 < (((w.alloc (.cells #[x0, x1, x2] s)).alloc (.cells #[y0, y1, y2] t)).alloc (.cells #[z0, z1, z2] u)).heap.size := by go_simp
  have h1 : Below w.heap.size w (((w.alloc (.cells #[x0, x1, x2] s)).alloc (.cells #[y0, y1, y2] t)).alloc (.cells #[z0, z1, z2] u)) := ((((Below.refl _ _).alloc (Nat.le_refl _) _).alloc (by simp) _).alloc (by go_simp; omega) _)
  refine ⟨⟨?_, ?_, ?_, ?_, ?_, ?_⟩, ⟨?_, ?_, ?_⟩, ⟨?_, ?_, ?_⟩, h1.trans (hb.mono (by omega))⟩
  · rw [hc _ _ l0]; go_simp
  · rw [hc _ _ l0]; go_simp
  · rw [hc _ _ l0]; go_simp
  · rw [hc _ _ l1]; go_simp
  · rw [hc _ _ l1]; go_simp
  · rw [hc _ _ l1]; go_simp
  · rw [hc _ _ l2]; go_simp
  · rw [hc _ _ l2]; go_simp
  · rw [hc _ _ l2]; go_simp
  · rw [hf _ _ l2]; go_simp
  · rw [hf _ _ l2]; go_simp
  · rw [hf _ _ l2]; go_simp
end Go.Proofs.Ytbnjjoaippoinaa

namespace Go.Proofs.Ytbnjjoaippoinaa
open Go.RowKit

/-- Nine cells and three marks read anew behind a further call. -/
theorem three_on {w1 w2 : World} (h : Below w1.heap.size w1 w2) {p : Nat} {x0 x1 x2 : Value} (hc : w1.cell? ⟨p, 0, none⟩ = some x0 ∧ w1.cell? ⟨p, 1, none⟩ = some x1 ∧ w1.cell? ⟨p, 2, none⟩ = some x2) :
    w2.cell? ⟨p, 0, none⟩ = some x0 ∧ w2.cell? ⟨p, 1, none⟩ = some x1 ∧ w2.cell? ⟨p, 2, none⟩ = some x2 := by
  have one : ∀ (o : Nat) (v : Value), w1.cell? ⟨p, o, none⟩ = some v → w2.cell? ⟨p, o, none⟩ = some v := fun o v hc => by
    rw [h.cell (World.block_lt_of_cell? w1 _ hc)]; exact hc
  exact ⟨one _ _ hc.1, one _ _ hc.2.1, one _ _ hc.2.2⟩
theorem marks_on {w1 w2 : World} (h : Below w1.heap.size w1 w2) {p : Nat} {x0 : Value} (hc : w1.cell? ⟨p, 0, none⟩ = some x0) (hf : w1.frozen? ⟨p, 0, none⟩ = false ∧ w1.frozen? ⟨p, 1, none⟩ = false ∧ w1.frozen? ⟨p, 2, none⟩ = false) :
    w2.frozen? ⟨p, 0, none⟩ = false ∧ w2.frozen? ⟨p, 1, none⟩ = false ∧ w2.frozen? ⟨p, 2, none⟩ = false := by
  have hl := World.block_lt_of_cell? w1 _ hc
  exact ⟨by rw [h.frozen hl]; exact hf.1, by rw [h.frozen (p := ⟨p, 1, none⟩) hl]; exact hf.2.1, by rw [h.frozen (p := ⟨p, 2, none⟩) hl]; exact hf.2.2⟩

end Go.Proofs.Ytbnjjoaippoinaa

namespace Go.Proofs.Ytbnjjoaippoinaa

/-- A size laid at the power low. -/
def atL (d : Dy) (low : Int) : Nat := vl d.mag * 2 ^ (d.exp - low).toNat
theorem sv_at (d : Dy) (low : Int) : sv d * 2 ^ (d.exp - low).toNat = if d.neg then -(atL d low : Int) else atL d low := by
  unfold sv atL
  rw [Int.natCast_mul, Int.natCast_pow]
  cases d.neg
  · rfl
  · simp only [if_true, Int.neg_mul]; rfl
theorem qd_at {d : Dy} {low : Int} (h1 : -65536 ≤ low) (h2 : low ≤ d.exp) : qd d = sv d * 2 ^ (d.exp - low).toNat * 2 ^ (low + 65536).toNat := by
  unfold qd
  rw [Int.mul_assoc, ← pow_add_int, show (d.exp + 65536).toNat = (d.exp - low).toNat + (low + 65536).toNat by omega]
theorem add_at {a b : Dy} (ha : rightB a = true) (hb : rightB b = true) {low : Int} (h1 : -65536 ≤ low) (h2 : low ≤ a.exp) (h3 : low ≤ b.exp) :
    addD a b = nrm (sv a * 2 ^ (a.exp - low).toNat + sv b * 2 ^ (b.exp - low).toNat) low := by
  unfold addD
  rw [ha, hb, qd_at h1 h2, qd_at h1 h3, ← Int.add_mul]
  simp only [Bool.and_self, if_true]
  have := nrm_shift (sv a * 2 ^ (a.exp - low).toNat + sv b * 2 ^ (b.exp - low).toNat) low (low + 65536).toNat
  rw [show low - ((low + 65536).toNat : Int) = -65536 by omega] at this
  exact this
theorem add_comm' (a b : Dy) : addD a b = addD b a := by unfold addD; rw [Bool.and_comm, Int.add_comm]
/-- With like signs. -/
theorem add_like {a b : Dy} (ha : rightB a = true) (hb : rightB b = true) {low : Int} (h1 : -65536 ≤ low) (h2 : low ≤ a.exp) (h3 : low ≤ b.exp) (hn : a.neg = b.neg) {zs : List Nat} (hz : vl zs = atL a low + atL b low) :
    normD ⟨a.neg, zs, low⟩ = addD a b := by
  rw [add_at ha hb h1 h2 h3, sv_at, sv_at]
  unfold normD sv
  simp only [hz, Int.natCast_add, ← hn]
  cases a.neg
  · rfl
  · simp only [if_true]; rw [Int.neg_add]
/-- With unlike ones, the first not the less. -/
theorem add_unlike {a b : Dy} (ha : rightB a = true) (hb : rightB b = true) {low : Int} (h1 : -65536 ≤ low) (h2 : low ≤ a.exp) (h3 : low ≤ b.exp) (hn : a.neg = !b.neg) {zs : List Nat} (hz : vl zs + atL b low = atL a low) :
    normD ⟨a.neg, zs, low⟩ = addD a b := by
  rw [add_at ha hb h1 h2 h3, sv_at, sv_at]
  unfold normD sv
  have hz' : (vl zs : Int) = (atL a low : Int) - (atL b low : Int) := by omega
  simp only [hz', hn]
  cases b.neg
  · simp only [Bool.not_false, if_true, Bool.false_eq_true, if_false]; congr 1; omega
  · simp only [Bool.not_true, if_true, Bool.false_eq_true, if_false]; congr 1
theorem add_zero_left {b : Dy} (hb : rightB b = true) (lb : Lm b.mag) : addD dy0 b = (b, 0) := by
  unfold addD
  rw [hb]
  simp only [show rightB dy0 = true from rfl, Bool.and_self, if_true]
  rw [show qd dy0 = 0 by unfold qd; rw [show sv dy0 = 0 from rfl, Int.zero_mul], Int.zero_add]
  exact qd_nrm lb hb
theorem right_nil {d : Dy} (h : rightB d = true) (h0 : d.mag.length = 0) : d = dy0 := by
  rcases right_cases h with h | ⟨h, _⟩
  · exact h
  · exact absurd h0 h
theorem right_ne {d : Dy} (h : rightB d = true) (h0 : d.mag.length ≠ 0) : vl d.mag ≠ 0 ∧ d.mag.getD 0 0 % 2 = 1 := by
  rcases right_cases h with rfl | ⟨h1, _, h3, h4, _⟩
  · simp [dy0] at h0
  · exact ⟨vl_ne_last h1 h4, h3⟩
theorem atL_bl {d : Dy} {low : Int} (h0 : vl d.mag ≠ 0) (h : low ≤ d.exp) : (bl (atL d low) : Int) = bl (vl d.mag) + d.exp - low := by
  unfold atL; rw [bl_mul_pow h0]; omega
theorem nrm_wide {m low : Int} (h1 : m.natAbs % 2 = 1) (h2 : 16384 < bl m.natAbs) : nrm m low = (dy0, 3) := by
  have hm : m ≠ 0 := by intro h; rw [h] at h1; simp at h1
  unfold nrm
  rw [if_neg hm, tz_odd h1, if_pos (Or.inl (by omega))]
theorem wide_core {A B E : Nat} (hA : A < 2 ^ E) (hB : 2 ^ (E + 64) ≤ B) : A < B ∧ ¬ A + B < 2 ^ E ∧ ¬ B - A < 2 ^ E := by
  rw [Nat.pow_add, p64] at hB
  have := Nat.two_pow_pos E
  generalize 2 ^ E = P at *
  omega
/-- Too far apart: the lesser one has the lowest bit, and the other one is too far above. -/
theorem add_wide {a b : Dy} (ha : rightB a = true) (hb : rightB b = true) (la : Lm a.mag) (lb : Lm b.mag) (na : a.mag.length ≠ 0) (nb : b.mag.length ≠ 0) {low : Int} (hl : low = min a.exp b.exp) (he : a.exp ≤ b.exp)
    (hw : 16448 < max ((bl (vl a.mag) : Int) + a.exp) ((bl (vl b.mag) : Int) + b.exp) - low) : addD a b = (dy0, 3) := by
  have xa := right_exp ha
  have xb := right_exp hb
  obtain ⟨a0, ao⟩ := right_ne ha na
  obtain ⟨b0, bo⟩ := right_ne hb nb
  have hba : bl (vl a.mag) ≤ 64 * 256 := bl_limbs la xa.2.2
  have hbb : bl (vl b.mag) ≤ 64 * 256 := bl_limbs lb xb.2.2
  have hlt : low < b.exp := by omega
  have hbB := atL_bl (d := b) (low := low) b0 (by omega)
  obtain ⟨E, hE⟩ : ∃ E, E = 16384 := ⟨_, rfl⟩
  have eA : atL a low = vl a.mag := by unfold atL; rw [show (a.exp - low).toNat = 0 by omega, Nat.pow_zero, Nat.mul_one]
  have hA : atL a low < 2 ^ E := by rw [eA]; exact bl_le_iff.1 (by omega)
  have hAo : atL a low % 2 = 1 := by rw [eA, vl_odd la na]; exact ao
  have hBe : atL b low % 2 = 0 := by
    unfold atL
    obtain ⟨d, hd⟩ : ∃ d, (b.exp - low).toNat = d + 1 := ⟨(b.exp - low).toNat - 1, by omega⟩
    rw [hd, Nat.pow_succ, ← Nat.mul_assoc, Nat.mul_mod_left]
  have hB0 : atL b low ≠ 0 := by intro h; rw [h, bl_zero] at hbB; omega
  have hB : 2 ^ (E + 64) ≤ atL b low := Nat.le_trans (Nat.pow_le_pow_right (by omega) (by omega)) (bl_spec hB0).1
  rw [add_at ha hb (show -65536 ≤ low by omega) (by omega) (by omega), sv_at, sv_at]
  generalize atL a low = A at *
  generalize atL b low = B at *
  obtain ⟨w1, w2, w3⟩ := wide_core hA hB
  have key : ∀ m : Int, (m.natAbs = A + B ∨ m.natAbs = B - A) → nrm m low = (dy0, 3) := by
    intro m hm
    apply nrm_wide
    · rcases hm with h | h <;> omega
    · apply Nat.lt_of_not_le
      intro hle
      have hlt := bl_le_iff.1 (show bl m.natAbs ≤ E by omega)
      rcases hm with h | h
      · rw [h] at hlt; exact w2 hlt
      · rw [h] at hlt; exact w3 hlt
  apply key
  clear hA hB w2 w3 key
  cases a.neg <;> cases b.neg <;> simp only [if_true, Bool.false_eq_true, if_false] <;> omega
end Go.Proofs.Ytbnjjoaippoinaa

namespace Go.Proofs.Ytbnjjoaippoinaa
open Go.RowKit

/-- The answer of Round: a word. -/
def rndW (d : Dy) (m : Int) : Nat := if d.mag.length = 0 then 0 else if d.neg then 9223372036854775808 + rSz (vl d.mag) d.exp (szm d.neg m) else rSz (vl d.mag) d.exp (szm d.neg m)
theorem rSz_lt (v : Nat) (e m : Int) (h0 : v ≠ 0) : rSz v e m ≤ 9218868437227405312 := by
  unfold rSz
  by_cases hg : 1024 < (bl v : Int) + e
  · rw [if_pos hg]; split <;> omega
  · rw [if_neg hg]
    obtain ⟨k1, k2, k3, k4, k5⟩ := kept_bd h0 (show (bl v : Int) + e ≤ 1024 by omega)
    exact rW_lt (by unfold rKp; split <;> omega) k4

end Go.Proofs.Ytbnjjoaippoinaa

namespace Go.Proofs.Ytbnjjoaippoinaa
open Go.RowKit

/-- The dyad of a float. -/
def ofD (a : Nat) : Dy × Int := if finB a = false then (dy0, 5) else if spF a = 0 then (dy0, 0) else (⟨sgn a, [spF a], spE a⟩, 0)

theorem one_mark {w w1 : World} {x0 x1 x2 : Value} {s : TypeId} (hb : Below (w.alloc (.cells #[x0, x1, x2] s)).heap.size (w.alloc (.cells #[x0, x1, x2] s)) w1) :
    w1.frozen? ⟨w.heap.size, 0, none⟩ = false ∧ w1.frozen? ⟨w.heap.size, 1, none⟩ = false ∧ w1.frozen? ⟨w.heap.size, 2, none⟩ = false := by
  obtain ⟨hc, hf⟩ := oldc hb
  have l0 : w.heap.size < (w.alloc (.cells #[x0, x1, x2] s)).heap.size := by go_simp
  refine ⟨?_, ?_, ?_⟩
  · rw [hf _ _ l0]; go_simp
  · rw [hf _ _ l0]; go_simp
  · rw [hf _ _ l0]; go_simp
theorem mark_alloc {w : World} {a : Addr} {v : Value} (h : w.cell? a = some v) (hf : w.frozen? a = false) (o : Obj) : (w.alloc o).frozen? a = false := by
  rw [((Below.refl _ _).alloc (Nat.le_refl _) o).frozen (World.block_lt_of_cell? w _ h)]; exact hf
theorem one_lrow (w : World) (x : Nat) (o : Obj) (ho : o = .cells #[.int .u64 (x : Nat)] 42) : LRow (w.alloc o) (some ⟨w.heap.size, 0, none⟩) [x] := by
  right
  refine ⟨w.heap.size, 0, rfl, fun j hj => ?_⟩
  have : j = 0 := by simp at hj; omega
  subst this
  subst ho
  go_simp

/-- The dyad of a whole number. -/
def intD (n : Int) : Dy := (normD ⟨decide (n < 0), [n.natAbs], 0⟩).1
def GaveD (w : World) (d : Dy) (e : Ending) (w' : World) : Prop :=
  ∃ ao cap, e = .returned (.agg #[.bool d.neg, .slice ao d.mag.length cap, .int .i64 d.exp]) ∧ LRow w' ao d.mag ∧ Frs w.heap.size ao ∧ Below w.heap.size w w'

end Go.Proofs.Ytbnjjoaippoinaa
