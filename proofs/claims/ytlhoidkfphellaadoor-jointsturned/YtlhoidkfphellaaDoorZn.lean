/- What the reference's NatBits, NatCmp answer. -/
import Derived.Test.YtlhoidkfphellaaDoorZa
import Derived.Test.YtlhoidkfphellaaDoorZl
import Derived.Deep.RegionHeld3
import Derived.Deep.AppendLies
import Derived.Laws.OwnMore
import Derived.Deep.QuietTactic
import Derived.BigQuiet
namespace Go.Proofs.YtlhoidkfphellaaDoor
open Go.RowKit

/-- A list of limbs (or digits) in memory, as a slice. -/
def NS (w : World) (ao : Option Addr) (cap : Nat) (xs : List Nat) : Prop := LRow w ao xs ∧ (ao = none → cap = 0 ∧ xs.length = 0) ∧ xs.length ≤ cap
theorem NS.below {w w' : World} {ao : Option Addr} {cap : Nat} {xs : List Nat} (h : NS w ao cap xs) (hb : Below w.heap.size w w') : NS w' ao cap xs := ⟨h.1.below hb, h.2⟩
theorem NS.nil (w : World) : NS w none 0 [] := ⟨LRow.nil _ _, fun _ => ⟨rfl, rfl⟩, by simp⟩
theorem LRow.take {w : World} {ao : Option Addr} {xs : List Nat} (h : LRow w ao xs) (n : Nat) : LRow w ao (xs.take n) := by
  rcases h with h | ⟨b, off, rfl, hc⟩
  · exact Or.inl (by rw [List.length_take]; omega)
  · refine Or.inr ⟨b, off, rfl, fun j hj => ?_⟩
    rw [List.length_take] at hj
    rw [hc j (by omega), List.getD_eq_getElem?_getD, List.getD_eq_getElem?_getD, List.getElem?_take, if_pos (by omega)]
theorem NS.take {w : World} {ao : Option Addr} {cap : Nat} {xs : List Nat} (h : NS w ao cap xs) (n : Nat) : NS w ao cap (xs.take n) :=
  ⟨h.1.take n, fun e => ⟨(h.2.1 e).1, by rw [List.length_take, (h.2.1 e).2]; omega⟩, by rw [List.length_take]; have := h.2.2; omega⟩
/-- Limbs handed back in memory of their own. -/
def GaveN (w : World) (xs : List Nat) (e : Ending) (w' : World) : Prop := ∃ ao cap, e = .returned (.slice ao xs.length cap) ∧ NS w' ao cap xs ∧ Frs w.heap.size ao ∧ Below w.heap.size w w'
theorem owned_ns {w : World} {base : Nat} {t : TypeId} {v : Value} {xs : List Nat} (h : w.ownsRow base t 1 v xs.length (uv xs)) : ∃ ao cap, v = .slice ao xs.length cap ∧ NS w ao cap xs ∧ Frs base ao := by
  obtain ⟨ao, cap, e, h1, h2, h3⟩ := owned_lrow h
  refine ⟨ao, cap, e, ⟨h1, fun hn => ⟨h2 hn, ?_⟩, ?_⟩, h3⟩
  · rcases h1 with h1 | ⟨b, off, h4, _⟩
    · exact h1
    · rw [hn] at h4; cases h4
  · rcases h.2 with ⟨e2, hn⟩ | ⟨g, c, cur, e2, _, _, hc, _⟩
    · omega
    · rw [e] at e2; cases e2; exact hc
theorem quietB {w : World} (n : Nat) : Below w.heap.size w (w.drewN n) := ⟨rfl, rfl, rfl, Nat.le_refl _, fun _ _ => rfl⟩

/-- The append that lays a part of a row into new memory. -/
theorem news_of {w : World} {ad : Addr} {xs : List Nat} (hr : LRow w (some ad) xs) (k : Nat) : ∀ j u, (uv (xs.take k))[j]? = some u → w.cell? (ad.add j) = some u := by
  intro j u hu
  obtain ⟨hj, rfl⟩ := uv_get hu
  rcases hr.take k with h | ⟨b, off, e, hc⟩
  · omega
  · cases e
    have g := hc j hj
    simp only [Addr.add]
    split
    · rename_i h; subst h; exact g
    · exact g
theorem trim_fin {w w1 : World} {ys zs : List Nat} {k : Nat} {v : Value} (hl : ys.length = k) (e : ys = zs) (hown : w1.ownsRow w.heap.size 76 1 v (0 + k) ([] ++ uv ys)) (hgrow : w.grownBy w1 none) : GaveN w zs (.returned v) w1 := by
  subst e
  rw [Nat.zero_add, List.nil_append, ← hl] at hown
  obtain ⟨ao', cap', rfl, h1, h2⟩ := owned_ns hown
  exact ⟨ao', cap', rfl, h1, h2, (Below.refl _ _).grown hgrow (Nat.le_refl _) (fun k hk => by cases hk)⟩
end Go.Proofs.YtlhoidkfphellaaDoor

namespace Go.Proofs.YtlhoidkfphellaaDoor
open Go.RowKit

theorem uv_append (xs ys : List Nat) : uv (xs ++ ys) = uv xs ++ uv ys := by unfold uv; rw [List.map_append]
theorem own_block {w : World} {base : Nat} {e : TypeId} {v : Value} {n : Nat} {xs : List Value} {b : Nat} (h : w.ownsRow base e 1 v n xs) (hb : b < base) : v.ownBlock ≠ some b := fun h2 => by
  have := (h.lt b h2).1; omega
/-- A row that the call owns grows; what is older stays. -/
theorem own_below {w0 w w1 : World} {v : Value} {n : Nat} {xs : List Value} {e : TypeId} (hb : Below w0.heap.size w0 w) (hown : w.ownsRow w0.heap.size e 1 v n xs) (hg : w.grownBy w1 v.ownBlock) : Below w0.heap.size w0 w1 :=
  hb.grown hg hb.size (fun k hk => (hown.lt k hk).1)

end Go.Proofs.YtlhoidkfphellaaDoor

namespace Go.Proofs.YtlhoidkfphellaaDoor
open Go.RowKit

end Go.Proofs.YtlhoidkfphellaaDoor

namespace Go.Proofs.YtlhoidkfphellaaDoor
open Go.RowKit

theorem fill_vh {xs : List Nat} {V n : Nat} (hl : xs.length = n) (hd : ∀ j, j < n → xs.getD j 0 = dg V j) (hV : V < wt n) : Hm xs ∧ vh xs = V := by
  have e : xs = th n V := by
    apply List.ext_getElem (by rw [hl, th_length])
    intro i h1 h2
    have a := hd i (by omega)
    have b := th_dg (v := V) (show i < n by omega)
    rw [List.getD_eq_getElem?_getD, List.getElem?_eq_getElem h1] at a
    rw [List.getD_eq_getElem?_getD, List.getElem?_eq_getElem h2] at b
    simp only [Option.getD_some] at a b
    omega
  rw [e]
  exact ⟨th_lm _ _, by rw [vh_th', Nat.mod_eq_of_lt hV]⟩
theorem FRow.ns {w : World} {b n V : Nat} {f : Nat → Nat} (h : FRow w b n f) (hf : ∀ j, j < n → f j = dg V j) : NS w (some ⟨b, 0, none⟩) n (th n V) :=
  ⟨h.lrow (th_length _ _) (fun j hj => by rw [th_dg hj, hf j hj]), fun h => (by cases h), by rw [th_length]; exact Nat.le_refl _⟩

theorem cast_quo (r d b : Nat) : (((r * 4294967296 + d) / b : Nat) : Int) = ((r : Int) * 4294967296 + (d : Int)) / (b : Int) := by
  rw [Int.natCast_ediv, Int.natCast_add, Int.natCast_mul]; rfl
theorem cast_rem (r d b : Nat) : (((r * 4294967296 + d) % b : Nat) : Int) = ((r : Int) * 4294967296 + (d : Int)) % (b : Int) := by
  rw [Int.natCast_emod, Int.natCast_add, Int.natCast_mul]; rfl
end Go.Proofs.YtlhoidkfphellaaDoor

namespace Go.Proofs.YtlhoidkfphellaaDoor
open Go.RowKit

theorem lost_small {A m k : Nat} (h1 : A < wt m) (h2 : m ≤ k) : A % wt k = A := by
  apply Nat.mod_eq_of_lt
  exact Nat.lt_of_lt_of_le h1 (Nat.pow_le_pow_right (by omega) (by omega))
theorem wt_le_pow (n : Nat) : wt (n / 32) ≤ 2 ^ n := Nat.pow_le_pow_right (by omega) (by omega)
theorem LRow.drop {w : World} {b off : Nat} {xs : List Nat} (hc : ∀ j, j < xs.length → w.cell? ⟨b, off + j, none⟩ = some (.int .u64 (xs.getD j 0 : Nat))) (k : Nat) : LRow w (some ⟨b, off + k, none⟩) (xs.drop k) := by
  refine Or.inr ⟨b, off + k, rfl, fun j hj => ?_⟩
  rw [List.length_drop] at hj
  have := hc (k + j) (by omega)
  rw [← Nat.add_assoc] at this
  rw [this, List.getD_eq_getElem?_getD, List.getD_eq_getElem?_getD, List.getElem?_drop]
theorem down_none {A m q n : Nat} (h1 : A < wt m) (h2 : m ≤ q) (h3 : 32 * q ≤ n) : A % 2 ^ n = A ∧ A / 2 ^ n = 0 := by
  have h4 : A < 2 ^ n := Nat.lt_of_lt_of_le h1 (Nat.pow_le_pow_right (by omega) (by omega))
  exact ⟨Nat.mod_eq_of_lt h4, Nat.div_eq_of_lt h4⟩
theorem pow2_lt {r : Nat} (h : r < 32) : 0 < 2 ^ r ∧ 2 ^ r ≤ 2147483648 := ⟨Nat.two_pow_pos r, by
  have := Nat.pow_le_pow_right (show 0 < 2 by omega) (show r ≤ 31 by omega)
  exact this⟩
/-- Limbs and a word handed back. -/
def GaveNB (w : World) (xs : List Nat) (l : Bool) (e : Ending) (w' : World) : Prop := ∃ ao cap, e = .returned (.tuple #[.slice ao xs.length cap, .bool l]) ∧ NS w' ao cap xs ∧ Frs w.heap.size ao ∧ Below w.heap.size w w'

end Go.Proofs.YtlhoidkfphellaaDoor

namespace Go.Proofs.YtlhoidkfphellaaDoor
open Go.RowKit

theorem uv_rep (n : Nat) : uv (List.replicate n 0) = (madeCells #[.int .u64 0] n).toList := by
  rw [toList_madeCells_one]; unfold uv; rw [List.map_replicate]; rfl
theorem own_made (w : World) (n : Nat) (hn : n ≤ maxLen) : (w.alloc (.cells (madeCells #[.int .u64 0] n) 76)).ownsRow w.heap.size 76 1 (.slice (some ⟨w.heap.size, 0, none⟩) n n) n (uv (List.replicate n 0)) := by
  rw [uv_rep]
  exact World.ownsRow_lit w _ n (Nat.le_refl _) hn (by rw [size_madeCells, Nat.mul_one])
theorem World.ownsRow.base_le {w : World} {b c : Nat} {e : TypeId} {v : Value} {n : Nat} {xs : List Value} (h : w.ownsRow b e 1 v n xs) (hc : c ≤ b) : w.ownsRow c e 1 v n xs := by
  refine ⟨h.1, ?_⟩
  rcases h.2 with hn | ⟨g, cap, cur, h1, h2, h3⟩
  · exact Or.inl hn
  · exact Or.inr ⟨g, cap, cur, h1, Nat.le_trans hc h2, h3⟩
/-- What NatUp has laid down after i digits. -/
def upL (q b A i : Nat) : List Nat := List.replicate q 0 ++ th i (b * A)
theorem upL_succ (q b A i : Nat) : upL q b A (i + 1) = upL q b A i ++ [dg (b * A) i] := by unfold upL; rw [th_snoc, List.append_assoc]
theorem upL_length (q b A i : Nat) : (upL q b A i).length = q + i := by unfold upL; rw [List.length_append, List.length_replicate, th_length]

theorem up_step (P A i : Nat) : (dg A i * P + cr P 0 A i) % 4294967296 = dg (P * A) i ∧ (dg A i * P + cr P 0 A i) / 4294967296 = cr P 0 A (i + 1) := by
  have h := cr_step P 0 A i
  have h0 : dg 0 i = 0 := by unfold dg; rw [Nat.zero_div]
  rw [h0, Nat.add_zero, Nat.zero_add, Nat.mul_comm P (dg A i)] at h
  exact h
theorem cast_um (d P c : Nat) : (((d * P + c) % 4294967296 : Nat) : Int) = ((d : Int) * (P : Int) + (c : Int)) % 4294967296 := by
  rw [Int.natCast_emod, Int.natCast_add, Int.natCast_mul]; rfl
theorem cast_uq (d P c : Nat) : (((d * P + c) / 4294967296 : Nat) : Int) = ((d : Int) * (P : Int) + (c : Int)) / 4294967296 := by
  rw [Int.natCast_ediv, Int.natCast_add, Int.natCast_mul]; rfl
theorem mul_bd {a b : Nat} (ha : a ≤ 4294967295) (hb : b ≤ 4294967295) : (0 : Int) ≤ (a : Int) * (b : Int) ∧ (a : Int) * (b : Int) ≤ 18446744065119617025 := by
  have h : a * b ≤ 4294967295 * 4294967295 := Nat.mul_le_mul ha hb
  rw [← Int.natCast_mul]
  omega
end Go.Proofs.YtlhoidkfphellaaDoor

namespace Go.Proofs.YtlhoidkfphellaaDoor
open Go.RowKit

theorem cr_last {A Y m k : Nat} (hA : A < wt m) (hY : Y < wt m) (hk : m + 1 ≤ k) : cr 1 A Y k = 0 := by
  have h1 : wt (m + 1) ≤ wt k := Nat.pow_le_pow_right (by omega) (by omega)
  rw [wt_succ] at h1
  rw [cr_end (by omega) (by omega), Nat.one_mul]
  exact Nat.div_eq_of_lt (by omega)
theorem wt_mono {m k : Nat} (h : m ≤ k) : wt m ≤ wt k := Nat.pow_le_pow_right (by omega) (by omega)
theorem digits_len {xs : List Nat} (hL : Lm xs) : (lh (vl xs)).length ≤ 2 * xs.length := by
  rw [lh_length]
  apply nh_le
  have := vl_lt hL
  rw [pow_64_32] at this
  exact this
end Go.Proofs.YtlhoidkfphellaaDoor

namespace Go.Proofs.YtlhoidkfphellaaDoor
open Go.RowKit

theorem below_drewN {B : Nat} {w w1 : World} (h : Below B w w1) (n : Nat) : Below B w (w1.drewN n) := ⟨h.os, h.tape, h.output, h.size, h.block⟩
theorem own_drewN {w : World} {base : Nat} {e : TypeId} {v : Value} {n : Nat} {xs : List Value} (h : w.ownsRow base e 1 v n xs) (k : Nat) : (w.drewN k).ownsRow base e 1 v n xs := h
end Go.Proofs.YtlhoidkfphellaaDoor

namespace Go.Proofs.YtlhoidkfphellaaDoor
open Go.RowKit

theorem dg_shift (A i k : Nat) : dg A (i + k) = dg (A / wt i) k := by unfold dg; rw [wt_add, Nat.div_div_eq_div_mul]
theorem dg_over {A m j : Nat} (h : A < wt m) (hj : m ≤ j) : dg A j = 0 := by
  unfold dg; rw [Nat.div_eq_of_lt (Nat.lt_of_lt_of_le h (wt_mono hj)), Nat.zero_mod]
theorem dg_low {A Z i j : Nat} (h : j < i) : dg (A + wt i * Z) j = dg A j := by
  obtain ⟨d, rfl⟩ : ∃ d, i = j + (1 + d) := ⟨i - j - 1, by omega⟩
  have e : wt (j + (1 + d)) * Z = wt j * (4294967296 * (wt d * Z)) := by
    rw [wt_add, wt_add, show wt 1 = 4294967296 from rfl]; ac_rfl
  unfold dg
  rw [e, Nat.add_mul_div_left _ _ (wt_pos j), Nat.add_mul_mod_self_left]
theorem pm_succ (X Y i : Nat) : X % wt (i + 1) * Y = X % wt i * Y + wt i * (dg X i * Y) := by
  rw [mod_wt_succ, Nat.add_mul, Nat.mul_assoc]
theorem pm_lt {X Y i l : Nat} (hY : Y < wt l) : X % wt i * Y < wt (i + l) := by
  rw [wt_add]
  exact Nat.mul_lt_mul_of_lt_of_le (Nat.mod_lt _ (wt_pos i)) (Nat.le_of_lt hY) (wt_pos l)
theorem pm_div {X Y i l : Nat} (hY : Y < wt l) : X % wt i * Y / wt i < wt l := by
  apply Nat.div_lt_of_lt_mul
  rw [← wt_add]
  exact pm_lt hY
theorem pm_next (X Y i : Nat) : X % wt (i + 1) * Y / wt i = X % wt i * Y / wt i + dg X i * Y := by
  rw [pm_succ, Nat.add_mul_div_left _ _ (wt_pos i)]
/-- The digits of out, k places of row i done. -/
def rowF (X Y i k j : Nat) : Nat := if j < i + k then dg (X % wt (i + 1) * Y) j else dg (X % wt i * Y) j
theorem rowF_zero (X Y i j : Nat) : rowF X Y i 0 j = dg (X % wt i * Y) j := by
  unfold rowF
  by_cases h : j < i
  · rw [if_pos (by omega), pm_succ, dg_low h]
  · rw [if_neg (by omega)]
theorem rowF_step (X Y i k : Nat) : (dg X i * dg Y k + rowF X Y i k (i + k) + cr (dg X i) (X % wt i * Y / wt i) Y k) % 4294967296 = dg (X % wt (i + 1) * Y) (i + k) ∧ (dg X i * dg Y k + rowF X Y i k (i + k) + cr (dg X i) (X % wt i * Y / wt i) Y k) / 4294967296 = cr (dg X i) (X % wt i * Y / wt i) Y (k + 1) := by
  have h := cr_step (dg X i) (X % wt i * Y / wt i) Y k
  have e1 : rowF X Y i k (i + k) = dg (X % wt i * Y / wt i) k := by unfold rowF; rw [if_neg (by omega), dg_shift]
  have e2 : dg (X % wt (i + 1) * Y) (i + k) = dg (X % wt i * Y / wt i + dg X i * Y) k := by rw [dg_shift, pm_next]
  rw [e1, e2]
  exact h
theorem rowF_succ (X Y i k j : Nat) : (if j = i + k then dg (X % wt (i + 1) * Y) (i + k) else rowF X Y i k j) = rowF X Y i (k + 1) j := by
  unfold rowF
  by_cases h : j = i + k
  · subst h; rw [if_pos rfl, if_pos (by omega)]
  · rw [if_neg h]
    by_cases h2 : j < i + k
    · rw [if_pos h2, if_pos (by omega)]
    · rw [if_neg h2, if_neg (by omega)]
theorem rowF_end {X Y i l : Nat} (hY : Y < wt l) (j : Nat) : (if j = i + l then cr (dg X i) (X % wt i * Y / wt i) Y l else rowF X Y i l j) = dg (X % wt (i + 1) * Y) j := by
  by_cases h : j = i + l
  · subst h
    rw [if_pos rfl, cr_end (pm_div hY) hY, dg_shift, pm_next]
    have h1 := pm_div (X := X) (Y := Y) (i := i + 1) hY
    rw [wt_succ, ← Nat.div_div_eq_div_mul, ← wt_succ, pm_next] at h1
    generalize X % wt i * Y / wt i + dg X i * Y = V at *
    unfold dg
    rw [Nat.mod_eq_of_lt]
    apply Nat.div_lt_of_lt_mul
    exact (Nat.div_lt_iff_lt_mul (k := 4294967296) (x := V) (y := wt l) (by omega)).1 h1
  · rw [if_neg h]
    unfold rowF
    by_cases h2 : j < i + l
    · rw [if_pos h2]
    · rw [if_neg h2, dg_over (pm_lt hY) (by omega), dg_over (m := i + 1 + l) (pm_lt hY) (by omega)]
theorem row_bd {x y o c : Nat} (hx : x < 4294967296) (hy : y < 4294967296) (ho : o < 4294967296) (hc : c ≤ x) : x * y + o + c < 18446744073709551616 ∧ x * y ≤ 18446744065119617025 := by
  have h : x * y ≤ 4294967295 * 4294967295 := Nat.mul_le_mul (by omega) (by omega)
  omega
theorem cast_rm (x y o c : Nat) : (((x * y + o + c) % 4294967296 : Nat) : Int) = ((x : Int) * (y : Int) + (o : Int) + (c : Int)) % 4294967296 := by
  rw [Int.natCast_emod, Int.natCast_add, Int.natCast_add, Int.natCast_mul]; rfl
theorem cast_rq (x y o c : Nat) : (((x * y + o + c) / 4294967296 : Nat) : Int) = ((x : Int) * (y : Int) + (o : Int) + (c : Int)) / 4294967296 := by
  rw [Int.natCast_ediv, Int.natCast_add, Int.natCast_add, Int.natCast_mul]; rfl
theorem wrap_fit {z : Int} (h0 : 0 ≤ z) (h1 : z < 18446744073709551616) : IntKind.u64.wrap z = z := by rw [IntKind.wrap_u64]; omega

end Go.Proofs.YtlhoidkfphellaaDoor

namespace Go.Proofs.YtlhoidkfphellaaDoor
open Go.RowKit

/-- The highest limb's bits, and those below it. -/
theorem bits_top {v m t : Nat} (hm : (lo v).length = m + 1) (ht : (lo v).getD m 0 = t) : 64 * m + bl t = bl v ∧ t ≠ 0 ∧ t < 18446744073709551616 := by
  have h0 : v ≠ 0 := fun h => by rw [h] at hm; simp [lo_zero] at hm
  have h1 := (lo_last h0).1
  rw [hm, show m + 1 - 1 = m by omega, ht] at h1
  have s := vl_take_succ (xs := lo v) (k := m) (by omega)
  rw [show m + 1 = (lo v).length by omega, List.take_length, vl_lo, ht] at s
  have b := bl_join (vl_take_lt (lo_lm v) m) h1
  rw [← s] at b
  exact ⟨b.symm, h1, by rw [← ht]; exact (lo_lm v).getD m⟩
theorem bl_half {t : Nat} (h : t ≠ 0) : bl (t / 2) + 1 = bl t := by
  have e := bl_div (v := t) (k := 1)
  have := bl_pos h
  rw [Nat.pow_one] at e
  omega
theorem nl_mono {a b : Nat} (h : a ≤ b) : nl a ≤ nl b := nl_le (Nat.lt_of_le_of_lt h (nl_fits b))
theorem lo_digit (v i : Nat) : (lo v).getD i 0 = v / 2 ^ (64 * i) % 18446744073709551616 := by rw [vl_digit (lo_lm v), vl_lo]
theorem quietB2 {w : World} (n m : Nat) : Below w.heap.size w ((w.drewN n).drewN m) := ⟨rfl, rfl, rfl, Nat.le_refl _, fun _ _ => rfl⟩
theorem quietB3 {w : World} (n m k : Nat) : Below w.heap.size w (((w.drewN n).drewN m).drewN k) := ⟨rfl, rfl, rfl, Nat.le_refl _, fun _ _ => rfl⟩
theorem cmp_start {a b : Nat} (h : (lo a).length = (lo b).length) : a / 2 ^ (64 * (lo a).length) = b / 2 ^ (64 * (lo a).length) := by
  have h1 := nl_fits a
  have h2 := nl_fits b
  rw [← lo_length] at h1 h2
  rw [Nat.div_eq_of_lt h1, Nat.div_eq_of_lt (by rw [h]; exact h2)]
theorem sg_lt {a b : Nat} (h : a < b) : sgI ((a : Int) - b) = -1 := by unfold sgI; rw [if_pos (by omega)]
theorem sg_gt {a b : Nat} (h : b < a) : sgI ((a : Int) - b) = 1 := by unfold sgI; rw [if_neg (by omega), if_neg (by omega)]
theorem sg_eq {a b : Nat} (h : a = b) : sgI ((a : Int) - b) = 0 := by unfold sgI; rw [if_neg (by omega), if_pos (by omega)]
end Go.Proofs.YtlhoidkfphellaaDoor
