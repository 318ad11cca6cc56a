/- Rounding a dyad's size to a float, as a plain function on words; a float's own dyad is rounded to it; no program in this text. -/
import Derived.Test.YtfipmopmpacdaaaGreatDoorZc
import Derived.OwnWalk
import Derived.Laws.AppendOwnNone
import Derived.Deep.DeepCutAuto
import Derived.Deep.RegionHeld3
import Derived.Test.YtfipmopmpacdaaaGreatDoorZa
import Derived.Test.YtfipmopmpacdaaaGreatDoorZg
namespace Go.Proofs.YtfipmopmpacdaaaGreatDoor
open Go.RowKit
def sgD (d : Dy) : Int := if d.mag.length = 0 then 0 else if d.neg then -1 else 1
set_option maxHeartbeats 400000 in
theorem sign_any (d : Dy) (ao : Option Addr) (cap : Nat) (w : World) :
  Calls Tryz.prog 106 #[.agg #[.bool d.neg, .slice ao d.mag.length cap, .int .i64 d.exp]] w fun e w' => e = .returned (.int .i64 (sgD d)) ∧ Below w.heap.size w w' := by
 obtain ⟨neg, xs, ex⟩ := d
 have hend : ∀ o1, Below w.heap.size w (w.alloc o1) := fun o1 => (Below.refl _ _).alloc (Nat.le_refl _) o1
 simp only at *
 by_cases h0 : xs.length = 0
 ·have HE : Hid (sgD ⟨neg, xs, ex⟩ = 0) := (show _ = _ by unfold sgD; rw [if_pos (by exact h0)])
  have h1 : ((xs.length : Int) == 0) = true := beq_iff_eq.2 (by omega)
  clear h0
  go_enter Tryz.func106, Tryz.ntmps106
  go_wp2
  go_ret
  exact ⟨retI HE.out.symm, hend _⟩
 ·have h1 : ((xs.length : Int) == 0) = false := beq_eq_false_iff_ne.2 (by omega)
  have HE : Hid (sgD ⟨neg, xs, ex⟩ = if neg then -1 else 1) := (show _ = _ by unfold sgD; rw [if_neg (by exact h0)])
  clear h0
  cases neg
  all_goals
   go_enter Tryz.func106, Tryz.ntmps106
   go_wp2
   go_ret
   exact ⟨retI HE.out.symm, hend _⟩
set_option maxHeartbeats 400000 in
theorem top_any (d : Dy) (ao : Option Addr) (cap : Nat) (w : World) (hr : LRow w ao d.mag) (hL : Lm d.mag) (hn : d.mag.length ≤ 1125899906842624) (h1 : -1000000 ≤ d.exp) (h2 : d.exp ≤ 1000000) :
  Calls Tryz.prog 126 #[.agg #[.bool d.neg, .slice ao d.mag.length cap, .int .i64 d.exp]] w fun e w' => e = .returned (.int .i64 ((bl (vl d.mag) : Int) + d.exp)) ∧ Below w.heap.size w w' := by
 obtain ⟨neg, xs, ex⟩ := d
 have hend : ∀ o1 n, Below w.heap.size w ((w.alloc o1).drewN n) := fun o1 n => by
  have h := (Below.refl w.heap.size w).alloc (Nat.le_refl _) o1
  exact ⟨h.os, h.tape, h.output, h.size, h.block⟩
 have hb : bl (vl xs) ≤ 64 * 1125899906842624 := bl_limbs hL hn
 have hwr : IntKind.i64.wrap ((bl (vl xs) : Int) + ex) = (bl (vl xs) : Int) + ex := by rw [IntKind.wrap_i64]; simp only at h1 h2; omega
 simp only at *
 go_enter Tryz.func126, Tryz.ntmps126
 go_wp2
 go_quiet ((go_at_call 121; exact Calls.quiet_of_same (bitLen_any _ _ _ _ (hr.alloc _) hL hn)))
 go_wp2
 go_ret
 exact ⟨rfl, hend _ _⟩
def uv (xs : List Nat) : List Value := xs.map fun x => .int .u64 (x : Nat)
theorem uv_length (xs : List Nat) : (uv xs).length = xs.length := by simp [uv]
theorem uv_get {xs : List Nat} {j : Nat} {u : Value} (h : (uv xs)[j]? = some u) : j < xs.length ∧ u = .int .u64 (xs.getD j 0 : Nat) := by
 unfold uv at h
 rw [List.getElem?_map] at h
 by_cases hj : j < xs.length
 ·rw [List.getElem?_eq_getElem hj] at h
  simp at h
  exact ⟨hj, by rw [List.getD_eq_getElem?_getD, List.getElem?_eq_getElem hj]; exact h.symm⟩
 ·rw [List.getElem?_eq_none (by omega)] at h; simp at h
theorem uv_at {xs : List Nat} {j : Nat} (hj : j < xs.length) : (uv xs)[j]? = some (.int .u64 (xs.getD j 0 : Nat)) := by
 unfold uv
 rw [List.getElem?_map, List.getElem?_eq_getElem hj, List.getD_eq_getElem?_getD, List.getElem?_eq_getElem hj]; rfl
theorem uv_one {xs : List Nat} : ∀ u ∈ uv xs, u.oneCell' = true := by
 intro u hu
 simp only [uv, List.mem_map] at hu
 obtain ⟨x, _, rfl⟩ := hu
 rfl
theorem owned_lrow {w : World} {base : Nat} {t : TypeId} {v : Value} {xs : List Nat} (h : w.ownsRow base t 1 v xs.length (uv xs)) : ∃ ao cap, v = .slice ao xs.length cap ∧ LRow w ao xs ∧ (ao = none → cap = 0) ∧ Frs base ao := by
 obtain ⟨h1, h2⟩ := h
 rcases h2 with ⟨rfl, hn⟩ | ⟨g, cap, cur, rfl, hg, hh, hc⟩
 ·exact ⟨none, 0, by rw [hn], Or.inl hn, fun _ => rfl, Frs.none _⟩
 ·refine ⟨some ⟨g, 0, none⟩, cap, rfl, Or.inr ⟨g, 0, rfl, fun j hj => ?_⟩, fun h => (by cases h), fun a e => by cases e; exact hg⟩
  have own : w.ownsRow base t 1 (.slice (some ⟨g, 0, none⟩) xs.length cap) xs.length (uv xs) := ⟨h1, Or.inr ⟨g, cap, cur, rfl, hg, hh, hc⟩⟩
  rw [Nat.zero_add, own.cellAt j (by omega), uv_at hj]
def GaveL (w : World) (xs : List Nat) (e : Ending) (w' : World) : Prop := ∃ ao' cap', e = .returned (.slice ao' xs.length cap') ∧ LRow w' ao' xs ∧ (ao' = none → cap' = 0 ∧ xs.length = 0) ∧ Frs w.heap.size ao' ∧ Below w.heap.size w w'
theorem LRow.setCell {w : World} {ao : Option Addr} {xs : List Nat} (h : LRow w ao xs) {p : Addr} (v : Value) (hne : ∀ b off, ao = some ⟨b, off, none⟩ → xs.length ≠ 0 → b ≠ p.block) : LRow (w.setCell p v) ao xs := by
 by_cases hx : xs.length = 0
 ·exact Or.inl hx
 ·rcases h with h | ⟨b, off, rfl, hc⟩
  ·exact Or.inl h
  ·refine Or.inr ⟨b, off, rfl, fun j hj => ?_⟩
   have := hne b off rfl hx
   have e : (w.setCell p v).cell? ⟨b, off + j, none⟩ = w.cell? ⟨b, off + j, none⟩ := World.cell?_of_block (w := w) (Below.heap_setCell w p v b this)
   rw [e]; exact hc j hj
theorem LRow.box {w : World} {ao : Option Addr} {xs : List Nat} {B c : Nat} (h : LRow w ao xs) (hf : Frs B ao) (hc : c < B) (o : Nat) (v : Value) : LRow (w.setCell ⟨c, o, none⟩ v) ao xs :=
 h.setCell v fun b off e _ => by have h1 := hf _ e; have h2 : B ≤ b := h1; show b ≠ c; omega
def cmpI (x y : Int) : Int := if x < y then -1 else if y < x then 1 else 0
def sz (d : Dy) : Nat := vl d.mag * 2 ^ (d.exp + 65536).toNat
theorem bl_mono {x y : Nat} (h : bl x < bl y) : x < y := Nat.lt_of_not_le fun hle => by
 have := bl_le_iff.2 (Nat.lt_of_le_of_lt hle (bl_le_iff.1 (Nat.le_refl (bl x))))
 omega
theorem bl_sz {d : Dy} (h0 : vl d.mag ≠ 0) (he : -65536 ≤ d.exp) : (bl (sz d) : Int) = bl (vl d.mag) + d.exp + 65536 := by
 unfold sz; rw [bl_mul_pow h0]; omega
def upA (v n : Nat) : Nat := v * 2 ^ (64 * n - bl v)
theorem upA_lt {v n : Nat} (h : bl v ≤ 64 * n) : upA v n < 2 ^ (64 * n) := by
 unfold upA
 have h1 : v < 2 ^ bl v := bl_le_iff.1 (Nat.le_refl _)
 calc v * 2 ^ (64 * n - bl v) < 2 ^ bl v * 2 ^ (64 * n - bl v) := Nat.mul_lt_mul_of_pos_right h1 (Nat.two_pow_pos _)
  _ = 2 ^ (64 * n) := by rw [← Nat.pow_add, show bl v + (64 * n - bl v) = 64 * n by omega]
theorem win_top {v n i : Nat} (h : bl v ≤ 64 * n) (hi : i < n) : win v ((bl v : Int) - ((i : Int) + 1) * 64) = upA v n / 2 ^ (64 * (n - 1 - i)) % 18446744073709551616 := by
 have := win_up v (64 * n - bl v) (n - 1 - i)
 unfold upA
 rw [← this]
 congr 1
 omega
theorem upA_sz {d : Dy} {n T : Nat} (_h0 : vl d.mag ≠ 0) (he : -65536 ≤ d.exp) (h : bl (vl d.mag) ≤ 64 * n) (hT : (T : Int) = bl (vl d.mag) + d.exp + 65536) : upA (vl d.mag) n * 2 ^ T = sz d * 2 ^ (64 * n) := by
 unfold upA sz
 rw [Nat.mul_assoc, ← Nat.pow_add, Nat.mul_assoc, ← Nat.pow_add, show 64 * n - bl (vl d.mag) + T = (d.exp + 65536).toNat + 64 * n by omega]
theorem cmp_top {a b : Dy} {n : Nat} (a0 : vl a.mag ≠ 0) (b0 : vl b.mag ≠ 0) (ea : -65536 ≤ a.exp) (eb : -65536 ≤ b.exp) (ha : bl (vl a.mag) ≤ 64 * n) (hb : bl (vl b.mag) ≤ 64 * n)
  (ht : (bl (vl a.mag) : Int) + a.exp = bl (vl b.mag) + b.exp) :
  (upA (vl a.mag) n < upA (vl b.mag) n → sz a < sz b) ∧ (upA (vl b.mag) n < upA (vl a.mag) n → sz b < sz a) ∧ (upA (vl a.mag) n = upA (vl b.mag) n → sz a = sz b) := by
 have e1 := upA_sz (T := (bl (vl a.mag) + a.exp + 65536 : Int).toNat) a0 ea ha (by omega)
 have e2 := upA_sz (T := (bl (vl a.mag) + a.exp + 65536 : Int).toNat) b0 eb hb (by omega)
 generalize (bl (vl a.mag) + a.exp + 65536 : Int).toNat = T at *
 have hp := Nat.two_pow_pos T
 have hq := Nat.two_pow_pos (64 * n)
 refine ⟨fun h => ?_, fun h => ?_, fun h => ?_⟩
 ·have := Nat.mul_lt_mul_of_pos_right h hp
  rw [e1, e2] at this
  exact Nat.lt_of_mul_lt_mul_right this
 ·have := Nat.mul_lt_mul_of_pos_right h hp
  rw [e1, e2] at this
  exact Nat.lt_of_mul_lt_mul_right this
 ·rw [h, e2] at e1
  exact Nat.eq_of_mul_eq_mul_right hq e1.symm
set_option maxHeartbeats 400000 in
theorem cmpInt_any (x y : Int) (w : World) : Calls Tryz.prog 134 #[.int .i64 x, .int .i64 y] w fun e w' => e = .returned (.int .i64 (cmpI x y)) ∧ w' = w := by
 by_cases h1 : x < y
 ·have HE : Hid (cmpI x y = -1) := (show _ = _ by unfold cmpI; rw [if_pos h1])
  go_enter Tryz.func134, Tryz.ntmps134
  go_wp2
  go_ret
  exact ⟨retI HE.out.symm, rfl⟩
 ·by_cases h2 : y < x
  ·have HE : Hid (cmpI x y = 1) := (show _ = _ by unfold cmpI; rw [if_neg h1, if_pos h2])
   go_enter Tryz.func134, Tryz.ntmps134
   go_wp2
   go_ret
   exact ⟨retI HE.out.symm, rfl⟩
  ·have HE : Hid (cmpI x y = 0) := (show _ = _ by unfold cmpI; rw [if_neg h1, if_neg h2])
   go_enter Tryz.func134, Tryz.ntmps134
   go_wp2
   go_ret
   exact ⟨retI HE.out.symm, rfl⟩
set_option maxHeartbeats 400000 in
theorem cmpU_any (x y : Int) (w : World) : Calls Tryz.prog 135 #[.int .u64 x, .int .u64 y] w fun e w' => e = .returned (.int .i64 (cmpI x y)) ∧ w' = w := by
 by_cases h1 : x < y
 ·have HE : Hid (cmpI x y = -1) := (show _ = _ by unfold cmpI; rw [if_pos h1])
  go_enter Tryz.func135, Tryz.ntmps135
  go_wp2
  go_ret
  exact ⟨retI HE.out.symm, rfl⟩
 ·by_cases h2 : y < x
  ·have HE : Hid (cmpI x y = 1) := (show _ = _ by unfold cmpI; rw [if_neg h1, if_pos h2])
   go_enter Tryz.func135, Tryz.ntmps135
   go_wp2
   go_ret
   exact ⟨retI HE.out.symm, rfl⟩
  ·have HE : Hid (cmpI x y = 0) := (show _ = _ by unfold cmpI; rw [if_neg h1, if_neg h2])
   go_enter Tryz.func135, Tryz.ntmps135
   go_wp2
   go_ret
   exact ⟨retI HE.out.symm, rfl⟩
theorem cmpI_lt {x y : Int} (h : x < y) : cmpI x y = -1 := by unfold cmpI; rw [if_pos h]
theorem cmpI_gt {x y : Int} (h : y < x) : cmpI x y = 1 := by unfold cmpI; rw [if_neg (by omega), if_pos h]
theorem cmpI_eq {x y : Int} (h : x = y) : cmpI x y = 0 := by unfold cmpI; rw [if_neg (by omega), if_neg (by omega)]
theorem six_on {w1 w2 : World} (h : Below w1.heap.size w1 w2) {p q : Nat} {x0 x1 x2 y0 y1 y2 : Value}
  (hc : w1.cell? ⟨p, 0, none⟩ = some x0 ∧ w1.cell? ⟨p, 1, none⟩ = some x1 ∧ w1.cell? ⟨p, 2, none⟩ = some x2 ∧ w1.cell? ⟨q, 0, none⟩ = some y0 ∧ w1.cell? ⟨q, 1, none⟩ = some y1 ∧ w1.cell? ⟨q, 2, none⟩ = some y2) :
  w2.cell? ⟨p, 0, none⟩ = some x0 ∧ w2.cell? ⟨p, 1, none⟩ = some x1 ∧ w2.cell? ⟨p, 2, none⟩ = some x2 ∧ w2.cell? ⟨q, 0, none⟩ = some y0 ∧ w2.cell? ⟨q, 1, none⟩ = some y1 ∧ w2.cell? ⟨q, 2, none⟩ = some y2 := by
 have one : ∀ (b o : Nat) (v : Value), w1.cell? ⟨b, o, none⟩ = some v → w2.cell? ⟨b, o, none⟩ = some v := fun b o v hc => by
  rw [h.cell (World.block_lt_of_cell? w1 _ hc)]; exact hc
 exact ⟨one _ _ _ hc.1, one _ _ _ hc.2.1, one _ _ _ hc.2.2.1, one _ _ _ hc.2.2.2.1, one _ _ _ hc.2.2.2.2.1, one _ _ _ hc.2.2.2.2.2⟩
theorem two_box (w : World) (x0 x1 x2 y0 y1 y2 : Value) (s t : TypeId) :
  let W := ((w.alloc (.cells #[x0, x1, x2] s)).alloc (.cells #[y0, y1, y2] t)).drew
  W.cell? ⟨w.heap.size, 0, none⟩ = some x0 ∧ W.cell? ⟨w.heap.size, 1, none⟩ = some x1 ∧ W.cell? ⟨w.heap.size, 2, none⟩ = some x2 ∧ W.cell? ⟨w.heap.size + 1, 0, none⟩ = some y0 ∧ W.cell? ⟨w.heap.size + 1, 1, none⟩ = some y1 ∧ W.cell? ⟨w.heap.size + 1, 2, none⟩ = some y2 := by
 refine ⟨?_, ?_, ?_, ?_, ?_, ?_⟩ <;> go_simp
set_option maxHeartbeats 4000000 in
theorem cmpSizes_any (a b : Dy) (ao bo : Option Addr) (cap bcap : Nat) (w : World) (hr : LRow w ao a.mag) (hs : LRow w bo b.mag) (la : Lm a.mag) (lb : Lm b.mag) (na : a.mag.length ≤ 256) (nb : b.mag.length ≤ 256)
  (a0 : vl a.mag ≠ 0) (b0 : vl b.mag ≠ 0) (ea : -65536 ≤ a.exp) (ea2 : a.exp ≤ 65536) (eb : -65536 ≤ b.exp) (eb2 : b.exp ≤ 65536) :
  Calls Tryz.prog 129 #[.agg #[.bool a.neg, .slice ao a.mag.length cap, .int .i64 a.exp], .agg #[.bool b.neg, .slice bo b.mag.length bcap, .int .i64 b.exp]] w fun e w' => e = .returned (.int .i64 (cmpI (sz a) (sz b))) ∧ Below w.heap.size w w' := by
 obtain ⟨N, hN⟩ : ∃ N, max a.mag.length b.mag.length = N := ⟨_, rfl⟩
 have hba : bl (vl a.mag) ≤ 64 * N := bl_limbs la (by omega)
 have hbb : bl (vl b.mag) ≤ 64 * N := bl_limbs lb (by omega)
 have hN2 : N ≤ 256 := by omega
 have HT : Hid (bl (sz a) = (bl (vl a.mag) : Int) + a.exp + 65536 ∧ bl (sz b) = (bl (vl b.mag) : Int) + b.exp + 65536) := ⟨bl_sz a0 ea, bl_sz b0 eb⟩
 have HC : Hid ((bl (vl a.mag) : Int) + a.exp = bl (vl b.mag) + b.exp → (upA (vl a.mag) N < upA (vl b.mag) N → sz a < sz b) ∧ (upA (vl b.mag) N < upA (vl a.mag) N → sz b < sz a) ∧ (upA (vl a.mag) N = upA (vl b.mag) N → sz a = sz b)) := cmp_top a0 b0 ea eb hba hbb
 have HU : Hid (upA (vl a.mag) N < 2 ^ (64 * N) ∧ upA (vl b.mag) N < 2 ^ (64 * N)) := ⟨upA_lt hba, upA_lt hbb⟩
 obtain ⟨n1, m1, e1⟩ := a
 obtain ⟨n2, m2, e2⟩ := b
 simp only at *
 have HN : Hid (max m1.length m2.length = N) := hN
 have hNi : max (m1.length : Int) (m2.length : Int) = N := by omega
 clear hN
 go_enter Tryz.func129, Tryz.ntmps129
 have hrW := fun o1 o2 => ((hr.alloc o1).alloc o2).drew
 have hsW := fun o1 o2 => ((hs.alloc o1).alloc o2).drew
 go_upto_region 1 with fail
 go_cut [11, 12, 13, 14, 15, 5] (fun _ _ _ _ _ s wx => s = .int .i64 (cmpI ((bl (vl m1) : Int) + e1) ((bl (vl m2) : Int) + e2)) ∧ Below ((w.alloc (.cells #[.bool n1, .slice ao m1.length cap, .int .i64 e1] 145)).alloc (.cells #[.bool n2, .slice bo m2.length bcap, .int .i64 e2] 145)).heap.size ((w.alloc (.cells #[.bool n1, .slice ao m1.length cap, .int .i64 e1] 145)).alloc (.cells #[.bool n2, .slice bo m2.length bcap, .int .i64 e2] 145)) wx)
 case first =>
  go_region_held3 (fun w' => w'.cell? ⟨w.heap.size, 0, none⟩ = some (.bool n1) ∧ w'.cell? ⟨w.heap.size, 1, none⟩ = some (.slice ao m1.length cap) ∧ w'.cell? ⟨w.heap.size, 2, none⟩ = some (.int .i64 e1) ∧ w'.cell? ⟨w.heap.size + 1, 0, none⟩ = some (.bool n2) ∧ w'.cell? ⟨w.heap.size + 1, 1, none⟩ = some (.slice bo m2.length bcap) ∧ w'.cell? ⟨w.heap.size + 1, 2, none⟩ = some (.int .i64 e2)) (go_keep)
   (first | (go_at_call 134; refine (cmpInt_any _ _ _).mono ?_; rintro e w' ⟨rfl, hww⟩; subst hww) | (go_at_call_of 126 (Value.agg #[Value.bool n1, Value.slice ao m1.length cap, Value.int IntKind.i64 e1]); refine (top_any ⟨n1, m1, e1⟩ ao cap _ (by first | assumption | exact hrW _ _) la (by simp only; omega) (by simp only; omega) (by simp only; omega)).mono ?_; rintro e wa ⟨rfl, ha⟩; have ka : LRow wa bo m2 := LRow.below (by first | assumption | exact hsW _ _) ha; have ka' : LRow wa ao m1 := LRow.below (by first | assumption | exact hrW _ _) ha; obtain ⟨c0, c1, c2, d0, d1, d2⟩ := six_on (p := w.heap.size) (q := w.heap.size + 1) ha (by first | exact two_box _ _ _ _ _ _ _ _ _ | (refine ⟨?_, ?_, ?_, ?_, ?_, ?_⟩ <;> assumption))) | (go_at_call_of 126 (Value.agg #[Value.bool n2, Value.slice bo m2.length bcap, Value.int IntKind.i64 e2]); refine (top_any ⟨n2, m2, e2⟩ bo bcap _ (by first | assumption | exact hsW _ _) lb (by simp only; omega) (by simp only; omega) (by simp only; omega)).mono ?_; rintro e wb ⟨rfl, hb⟩; have kb : LRow wb ao m1 := LRow.below (by first | assumption | exact hrW _ _) hb; have kb' : LRow wb bo m2 := LRow.below (by first | assumption | exact hsW _ _) hb; obtain ⟨c0, c1, c2, d0, d1, d2⟩ := six_on (p := w.heap.size) (q := w.heap.size + 1) hb (by first | exact two_box _ _ _ _ _ _ _ _ _ | (refine ⟨?_, ?_, ?_, ?_, ?_, ?_⟩ <;> assumption))))
  all_goals go_wp2_with fail
  all_goals go_meet
  all_goals first | exact ⟨rfl, (undrew ha).trans (hb.mono (undrew ha).size)⟩ | exact ⟨rfl, (undrew hb).trans (ha.mono (undrew hb).size)⟩
 case rest =>
  obtain ⟨rfl, hbx⟩ := hcut
  obtain ⟨wq, hwq⟩ : ∃ wq, wq = wc := ⟨_, rfl⟩
  subst hwq
  obtain ⟨⟨c0, c1, c2⟩, ⟨d0, d1, d2⟩, _⟩ := box2 hbx
  have hold := box2_old hbx
  have hrx : LRow wq ao m1 := ((hr.alloc _).alloc _).below hbx
  have hsx : LRow wq bo m2 := ((hs.alloc _).alloc _).below hbx
  have hend : ∀ n, Below w.heap.size w (wq.drewN n) := fun n => ⟨hold.os, hold.tape, hold.output, hold.size, hold.block⟩
  clear hr hs hrW hsW hbx
  by_cases ht : (bl (vl m1) : Int) + e1 = (bl (vl m2) : Int) + e2
  ·have h0 : cmpI ((bl (vl m1) : Int) + e1) ((bl (vl m2) : Int) + e2) = 0 := cmpI_eq ht
   have HC2 : Hid _ := HC.out ht
   have HH : Hid (upA (vl m1) N / 2 ^ (64 * N) = upA (vl m2) N / 2 ^ (64 * N)) := (show _ = _ by rw [Nat.div_eq_of_lt HU.out.1, Nat.div_eq_of_lt HU.out.2])
   clear ht HC HT
   go_wp2
   go_quiet (first | (go_at_call_of 121 (Value.slice ao m1.length cap); exact Calls.quiet_of_same (bitLen_any m1 _ _ _ hrx la (by omega))) | (go_at_call_of 121 (Value.slice bo m2.length bcap); exact Calls.quiet_of_same (bitLen_any m2 _ _ _ hsx lb (by omega))))
   clear h0
   go_upto_region 5 with fail
   go_cut [25, 26, 27, 28, 29, 30, 31, 32] (fun _ _ _ _ _ _ t z wx => t = .int .i64 N ∧ z = .int .i64 0 ∧ ∃ n, wx = wq.drewN n)
   case first =>
    go_wp2_with fail
    all_goals
     go_meet
     exact ⟨by have := HN.out; congr 1; omega, rfl, _, rfl⟩
   obtain ⟨rfl, rfl, nz, rfl⟩ := hcut
   go_wp2
   go_loopg [32] N (fun g i wr => ∃ k : Nat, k ≤ N ∧ g = N - k ∧ i = .int .i64 k ∧ Hid (upA (vl m1) N / 2 ^ (64 * (N - k)) = upA (vl m2) N / 2 ^ (64 * (N - k))) ∧ LRow wr ao m1 ∧ LRow wr bo m2 ∧ wr.cell? ⟨w.heap.size, 1, none⟩ = some (.slice ao m1.length cap) ∧ wr.cell? ⟨w.heap.size + 1, 1, none⟩ = some (.slice bo m2.length bcap) ∧ Below w.heap.size w wr)
   case atStart => exact ⟨0, Nat.zero_le _, rfl, rfl, HH, hrx, hsx, c1, d1, hend _⟩
   case round =>
    obtain ⟨k, hk, hg, rfl, hz, hry, hsy, k1, k2, hby⟩ := hrel
    have hen2 : ∀ n, Below w.heap.size w (wr.drewN n) := fun n => ⟨hby.os, hby.tape, hby.output, hby.size, hby.block⟩
    clear hrx hsx c0 c1 c2 d0 d1 d2 hold hend
    by_cases hlt : k < N
    ·have HA : Hid (win (vl m1) ((bl (vl m1) : Int) - ((k : Int) + 1) * 64) = upA (vl m1) N / 2 ^ (64 * (N - 1 - k)) % 18446744073709551616) := win_top hba hlt
     have HB : Hid (win (vl m2) ((bl (vl m2) : Int) - ((k : Int) + 1) * 64) = upA (vl m2) N / 2 ^ (64 * (N - 1 - k)) % 18446744073709551616) := win_top hbb hlt
     have hstep := top_step (A := upA (vl m1) N) (B := upA (vl m2) N) (j := N - 1 - k) (by rw [show N - 1 - k + 1 = N - k by omega]; exact hz.out)
     have hstep2 := top_step (A := upA (vl m2) N) (B := upA (vl m1) N) (j := N - 1 - k) (by rw [show N - 1 - k + 1 = N - k by omega]; exact hz.out.symm)
     have wA := win_lt (vl m1) ((bl (vl m1) : Int) - ((k : Int) + 1) * 64)
     have wB := win_lt (vl m2) ((bl (vl m2) : Int) - ((k : Int) + 1) * 64)
     obtain ⟨x, hx⟩ : ∃ x, win (vl m1) ((bl (vl m1) : Int) - ((k : Int) + 1) * 64) = x := ⟨_, rfl⟩
     obtain ⟨y, hy⟩ : ∃ y, win (vl m2) ((bl (vl m2) : Int) - ((k : Int) + 1) * 64) = y := ⟨_, rfl⟩
     have HA2 : Hid (x = upA (vl m1) N / 2 ^ (64 * (N - 1 - k)) % 18446744073709551616) := (show _ = _ by rw [← hx]; exact HA.out)
     have HB2 : Hid (y = upA (vl m2) N / 2 ^ (64 * (N - 1 - k)) % 18446744073709551616) := (show _ = _ by rw [← hy]; exact HB.out)
     rw [← HA2.out, ← HB2.out] at hstep hstep2
     have w1 := fun w' => window_any m1 ao cap ((bl (vl m1) : Int) - ((k : Int) + 1) * 64) w'
     have w2 := fun w' => window_any m2 bo bcap ((bl (vl m2) : Int) - ((k : Int) + 1) * 64) w'
     rw [hx] at w1
     rw [hy] at w2
     have HW1 : Hid _ := w1
     have HW2 : Hid _ := w2
     have HS1 : Hid _ := hstep
     have HS2 : Hid _ := hstep2
     clear HA HB hx hy wA wB hz w1 w2 hstep hstep2
     have hwr1 : IntKind.i64.wrap ((bl (vl m1) : Int) - ((k : Int) + 1) * 64) = (bl (vl m1) : Int) - ((k : Int) + 1) * 64 := by rw [IntKind.wrap_i64]; omega
     have hwr2 : IntKind.i64.wrap ((bl (vl m2) : Int) - ((k : Int) + 1) * 64) = (bl (vl m2) : Int) - ((k : Int) + 1) * 64 := by rw [IntKind.wrap_i64]; omega
     rcases Nat.lt_trichotomy x y with hxy | hxy | hxy
     ·have hc : cmpI (x : Int) (y : Int) = -1 := cmpI_lt (by omega)
      have HE : Hid (cmpI (sz ⟨n1, m1, e1⟩) (sz ⟨n2, m2, e2⟩) = -1) := cmpI_lt (by have := HC2.out.1 (HS1.out.2 hxy); omega)
      clear HC2 HS1 HS2 HA2 HB2
      go_wp2
      go_quiet (first | (go_at_call 135; exact Calls.quiet_of_same (cmpU_any _ _ _)) | (go_at_call_of 130 (Value.slice ao m1.length cap); exact Calls.quiet_of_same (HW1.out _ hry la (by omega) (by omega))) | (go_at_call_of 130 (Value.slice bo m2.length bcap); exact Calls.quiet_of_same (HW2.out _ hsy lb (by omega) (by omega))))
      go_wp2
      go_ret
      exact ⟨retI (hc.trans HE.out.symm), hen2 _⟩
     ·subst hxy
      have hc : cmpI (x : Int) (x : Int) = 0 := cmpI_eq rfl
      go_wp2
      go_quiet (first | (go_at_call 135; exact Calls.quiet_of_same (cmpU_any _ _ _)) | (go_at_call_of 130 (Value.slice ao m1.length cap); exact Calls.quiet_of_same (HW1.out _ hry la (by omega) (by omega))) | (go_at_call_of 130 (Value.slice bo m2.length bcap); exact Calls.quiet_of_same (HW2.out _ hsy lb (by omega) (by omega))))
      go_wp2
      go_roundg (N - (k + 1))
      case measure => omega
      case rel => exact ⟨k + 1, by omega, rfl, by go_num, (show _ = _ by rw [show N - (k + 1) = N - 1 - k by omega]; exact HS1.out.1 (by first | rfl | trivial)), hry, hsy, k1, k2, hen2 _⟩
     ·have hc : cmpI (x : Int) (y : Int) = 1 := cmpI_gt (by omega)
      have HE : Hid (cmpI (sz ⟨n1, m1, e1⟩) (sz ⟨n2, m2, e2⟩) = 1) := cmpI_gt (by have := HC2.out.2.1 (HS2.out.2 hxy); omega)
      clear HC2 HS1 HS2 HA2 HB2
      go_wp2
      go_quiet (first | (go_at_call 135; exact Calls.quiet_of_same (cmpU_any _ _ _)) | (go_at_call_of 130 (Value.slice ao m1.length cap); exact Calls.quiet_of_same (HW1.out _ hry la (by omega) (by omega))) | (go_at_call_of 130 (Value.slice bo m2.length bcap); exact Calls.quiet_of_same (HW2.out _ hsy lb (by omega) (by omega))))
      go_wp2
      go_ret
      exact ⟨retI (hc.trans HE.out.symm), hen2 _⟩
    ·have HE : Hid (cmpI (sz ⟨n1, m1, e1⟩) (sz ⟨n2, m2, e2⟩) = 0) := cmpI_eq (by
      have := hz.out
      rw [show N - k = 0 by omega, Nat.mul_zero, Nat.pow_zero, Nat.div_one, Nat.div_one] at this
      have := HC2.out.2.2 this
      omega)
     clear HC2 hz
     go_wp2
     go_ret
     exact ⟨retI HE.out.symm, hby⟩
  ·have hb1 := HT.out.1
   have hb2 := HT.out.2
   rcases (show (bl (vl m1) : Int) + e1 < (bl (vl m2) : Int) + e2 ∨ (bl (vl m2) : Int) + e2 < (bl (vl m1) : Int) + e1 by omega) with h | h
   ·have h0 : cmpI ((bl (vl m1) : Int) + e1) ((bl (vl m2) : Int) + e2) = -1 := cmpI_lt h
    have HE : Hid (cmpI (sz ⟨n1, m1, e1⟩) (sz ⟨n2, m2, e2⟩) = -1) := cmpI_lt (by have := bl_mono (x := sz ⟨n1, m1, e1⟩) (y := sz ⟨n2, m2, e2⟩) (by omega); omega)
    clear hb1 hb2 ht h HT HC
    go_wp2
    go_ret
    exact ⟨retI (h0.trans HE.out.symm), hold⟩
   ·have h0 : cmpI ((bl (vl m1) : Int) + e1) ((bl (vl m2) : Int) + e2) = 1 := cmpI_gt h
    have HE : Hid (cmpI (sz ⟨n1, m1, e1⟩) (sz ⟨n2, m2, e2⟩) = 1) := cmpI_gt (by have := bl_mono (x := sz ⟨n2, m2, e2⟩) (y := sz ⟨n1, m1, e1⟩) (by omega); omega)
    clear hb1 hb2 ht h HT HC
    go_wp2
    go_ret
    exact ⟨retI (h0.trans HE.out.symm), hold⟩
theorem sp_parts {a : Nat} (h0 : rung a ≠ 0) : spF a * 2 ^ spZ a = mg (rung a) ∧ spF a % 2 = 1 ∧ spE a = (up (rung a) : Int) - 1074 + spZ a := by
 have hlt := mg_lt (rung a)
 have hne := mg_ne h0
 obtain ⟨m, hm, hz⟩ := Lib.ctzFrom_spec 64 (mg (rung a)) (by omega) (by omega)
 have e : spZ a = Lib.ctzFrom 64 (mg (rung a)) := by unfold spZ Lib.ctz; rw [if_neg hne]
 rw [← e] at hm
 have hF : spF a = 2 * m + 1 := by
  unfold spF; rw [if_neg h0]
  rw [Nat.div_eq_of_eq_mul_right (Nat.two_pow_pos _) hm]
 exact ⟨by rw [hF, hm, Nat.mul_comm], by omega, by unfold spE; rw [if_neg h0]⟩
theorem sp_bd {a : Nat} (hf : finB a = true) (h0 : rung a ≠ 0) : spF a ≠ 0 ∧ spF a < 9007199254740992 ∧ spZ a < 53 ∧ -1074 ≤ spE a ∧ spE a ≤ 1023 ∧ up (rung a) < 2046 := by
 obtain ⟨p1, p2, p3⟩ := sp_parts h0
 have hlt := mg_lt (rung a)
 have hr : rung a < 9218868437227405312 := by unfold finB at hf; simpa using hf
 have hu : up (rung a) < 2046 := by unfold up; split <;> omega
 have h1 : spF a ≤ spF a * 2 ^ spZ a := Nat.le_mul_of_pos_right _ (Nat.two_pow_pos _)
 have h2 : 2 ^ spZ a ≤ spF a * 2 ^ spZ a := Nat.le_mul_of_pos_left _ (by omega)
 have h3 : 2 ^ spZ a < 2 ^ 53 := by omega
 have h4 : spZ a < 53 := (Nat.pow_lt_pow_iff_right (by omega : 1 < 2)).1 h3
 omega
end Go.Proofs.YtfipmopmpacdaaaGreatDoor
