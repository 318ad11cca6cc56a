/- What cmpSizes answers. -/
import Derived.Test.YtnclddfljghebaaGreatDoorZc
import Derived.OwnWalk
import Derived.Laws.AppendOwnNone
import Derived.Deep.DeepCutAuto
import Derived.Deep.RegionHeld3
namespace Go.Proofs.YtnclddfljghebaaGreatDoor
open Go.RowKit

/-- A dyad with its sign turned. -/
def trn (d : Dy) : Dy := ⟨!d.neg && decide (0 < d.mag.length), d.mag, d.exp⟩

def sgD (d : Dy) : Int := if d.mag.length = 0 then 0 else if d.neg then -1 else 1
set_option maxHeartbeats 400000 in
theorem top_any (d : Dy) (ao : Option Addr) (cap : Nat) (w : World) (hr : LRow w ao d.mag) (hL : Lm d.mag) (hn : d.mag.length ≤ 1125899906842624) (h1 : -1000000 ≤ d.exp) (h2 : d.exp ≤ 1000000) :
    Calls Tryz.prog 124 #[.agg #[.bool d.neg, .slice ao d.mag.length cap, .int .i64 d.exp]] w fun e w' => e = .returned (.int .i64 ((bl (vl d.mag) : Int) + d.exp)) ∧ Below w.heap.size w w' := by
  obtain ⟨neg, xs, ex⟩ := d
  have hend : ∀ o1 n, Below w.heap.size w ((w.alloc o1).drewN n) := fun o1 n => by
    have h := (Below.refl w.heap.size w).alloc (Nat.le_refl _) o1
    exact ⟨h.os, h.tape, h.output, h.size, h.block⟩
  have hb : bl (vl xs) ≤ 64 * 1125899906842624 := bl_limbs hL hn
  have hwr : IntKind.i64.wrap ((bl (vl xs) : Int) + ex) = (bl (vl xs) : Int) + ex := by rw [IntKind.wrap_i64]; simp only at h1 h2; omega
  simp only at *
  go_enter Tryz.func124, Tryz.ntmps124
  go_wp2
  go_quiet ((go_at_call 37; exact Calls.quiet_of_same (bitLen_any _ _ _ _ (hr.alloc _) hL hn)))
  go_wp2
  go_ret
  exact ⟨rfl, hend _ _⟩

def uv (xs : List Nat) : List Value := xs.map fun x => .int .u64 (x : Nat)
theorem uv_length (xs : List Nat) : (uv xs).length = xs.length := by simp [uv]
theorem uv_get {xs : List Nat} {j : Nat} {u : Value} (h : (uv xs)[j]? = some u) : j < xs.length ∧ u = .int .u64 (xs.getD j 0 : Nat) := by
  unfold uv at h
  rw [List.getElem?_map] at h
  by_cases hj : j < xs.length
  · rw [List.getElem?_eq_getElem hj] at h
    simp at h
    exact ⟨hj, by rw [List.getD_eq_getElem?_getD, List.getElem?_eq_getElem hj]; exact h.symm⟩
  · rw [List.getElem?_eq_none (by omega)] at h; simp at h
theorem uv_at {xs : List Nat} {j : Nat} (hj : j < xs.length) : (uv xs)[j]? = some (.int .u64 (xs.getD j 0 : Nat)) := by
  unfold uv
  rw [List.getElem?_map, List.getElem?_eq_getElem hj, List.getD_eq_getElem?_getD, List.getElem?_eq_getElem hj]; rfl
theorem uv_one {xs : List Nat} : ∀ u ∈ uv xs, u.oneCell' = true := by
  intro u hu
  simp only [uv, List.mem_map] at hu
  obtain ⟨x, _, rfl⟩ := hu
  rfl
/-- What is owned, as limbs in memory. -/
theorem owned_lrow {w : World} {base : Nat} {t : TypeId} {v : Value} {xs : List Nat} (h : w.ownsRow base t 1 v xs.length (uv xs)) : ∃ ao cap, v = .slice ao xs.length cap ∧ LRow w ao xs ∧ (ao = none → cap = 0) ∧ Frs base ao := by
  obtain ⟨h1, h2⟩ := h
  rcases h2 with ⟨rfl, hn⟩ | ⟨g, cap, cur, rfl, hg, hh, hc⟩
  · exact ⟨none, 0, by rw [hn], Or.inl hn, fun _ => rfl, Frs.none _⟩
  · refine ⟨some ⟨g, 0, none⟩, cap, rfl, Or.inr ⟨g, 0, rfl, fun j hj => ?_⟩, fun h => (by cases h), fun a e => by cases e; exact hg⟩
    have own : w.ownsRow base t 1 (.slice (some ⟨g, 0, none⟩) xs.length cap) xs.length (uv xs) := ⟨h1, Or.inr ⟨g, cap, cur, rfl, hg, hh, hc⟩⟩
    rw [Nat.zero_add, own.cellAt j (by omega), uv_at hj]

/-- Limbs handed back in memory of their own. -/
def GaveL (w : World) (xs : List Nat) (e : Ending) (w' : World) : Prop := ∃ ao' cap', e = .returned (.slice ao' xs.length cap') ∧ LRow w' ao' xs ∧ (ao' = none → cap' = 0 ∧ xs.length = 0) ∧ Frs w.heap.size ao' ∧ Below w.heap.size w w'

/-- Limbs stay where they are if boxes beside them are written. -/
theorem LRow.setCell {w : World} {ao : Option Addr} {xs : List Nat} (h : LRow w ao xs) {p : Addr} (v : Value) (hne : ∀ b off, ao = some ⟨b, off, none⟩ → xs.length ≠ 0 → b ≠ p.block) : LRow (w.setCell p v) ao xs := by
  by_cases hx : xs.length = 0
  · exact Or.inl hx
  · rcases h with h | ⟨b, off, rfl, hc⟩
    · exact Or.inl h
    · refine Or.inr ⟨b, off, rfl, fun j hj => ?_⟩
      have := hne b off rfl hx
      have e : (w.setCell p v).cell? ⟨b, off + j, none⟩ = w.cell? ⟨b, off + j, none⟩ := World.cell?_of_block (w := w) (Below.heap_setCell w p v b this)
      rw [e]; exact hc j hj

theorem LRow.box {w : World} {ao : Option Addr} {xs : List Nat} {B c : Nat} (h : LRow w ao xs) (hf : Frs B ao) (hc : c < B) (o : Nat) (v : Value) : LRow (w.setCell ⟨c, o, none⟩ v) ao xs :=
  h.setCell v fun b off e _ => by have h1 := hf _ e; have h2 : B ≤ b := h1; show b ≠ c; omega

theorem sameL_eq {xs ys : List Nat} (h : xs.length = ys.length) (hk : ∀ j, j < xs.length → xs.getD j 0 = ys.getD j 0) : xs = ys := by
  apply List.ext_getElem h
  intro i h1 h2
  have := hk i h1
  rw [List.getD_eq_getElem?_getD, List.getD_eq_getElem?_getD, List.getElem?_eq_getElem h1, List.getElem?_eq_getElem h2] at this
  exact this

set_option maxHeartbeats 1000000 in
theorem sameLimbs_any (xs ys : List Nat) (ao bo : Option Addr) (cap bcap : Nat) (w : World) (hr : LRow w ao xs) (hs : LRow w bo ys) (hn : xs.length ≤ 1125899906842624) :
    Calls Tryz.prog 83 #[.slice ao xs.length cap, .slice bo ys.length bcap] w fun e w' => e = .returned (.bool (decide (xs = ys))) ∧ Below w.heap.size w w' := by
  by_cases hl : xs.length = ys.length
  · have hl1 : ((xs.length : Int) != (ys.length : Int)) = false := by rw [hl]; simp
    go_enter Tryz.func83, Tryz.ntmps83
    go_wp2
    go_loopg [5] xs.length (fun g i wr => ∃ k n : Nat, k ≤ xs.length ∧ g = xs.length - k ∧ i = .int .i64 k ∧ Hid (∀ j, j < k → xs.getD j 0 = ys.getD j 0) ∧ wr = w.drewN n)
    case atStart => exact ⟨0, 0, Nat.zero_le _, rfl, rfl, fun j h => by omega, rfl⟩
    case round =>
      obtain ⟨k, n, hk, hg, rfl, hz, rfl⟩ := hrel
      by_cases hlt : k < xs.length
      · rcases hr with h | ⟨b, off, rfl, hc⟩
        · omega
        · rcases hs with h | ⟨b2, off2, rfl, hc2⟩
          · omega
          · have g1 := hc k hlt
            have g2 := hc2 k (by omega)
            obtain ⟨x, hx⟩ : ∃ x, xs.getD k 0 = x := ⟨_, rfl⟩
            obtain ⟨y, hy⟩ : ∃ y, ys.getD k 0 = y := ⟨_, rfl⟩
            rw [hx] at g1
            rw [hy] at g2
            have HX : Hid (xs.getD k 0 = x ∧ ys.getD k 0 = y) := ⟨hx, hy⟩
            clear hc hc2 hx hy
            have i1 : (k : Int) < (xs.length : Int) := by omega
            have i2 : (k : Int) < (ys.length : Int) := by omega
            by_cases hxy : x = y
            · subst hxy
              go_wp2
              go_quiet (fail)
              go_wp2
              go_roundg (xs.length - (k + 1))
              case measure => omega
              case rel => exact ⟨k + 1, _, by omega, rfl, by go_num, fun j h => by
                by_cases e : j = k
                · rw [e, HX.out.1, HX.out.2]
                · exact hz.out j (by omega), rfl⟩
            · have hne : ((x : Int) != (y : Int)) = true := by simp; omega
              have HE : Hid (decide (xs = ys) = false) := (show _ = _ from decide_eq_false fun e => hxy (by have := HX.out; rw [e] at this; omega))
              go_wp2
              go_quiet (fail)
              go_wp2
              go_ret
              exact ⟨retB HE.out.symm, ⟨rfl, rfl, rfl, Nat.le_refl _, fun _ _ => rfl⟩⟩
      · have HE : Hid (decide (xs = ys) = true) := (show _ = _ from decide_eq_true (sameL_eq hl fun j hj => hz.out j (by omega)))
        go_wp2
        go_ret
        exact ⟨retB HE.out.symm, ⟨rfl, rfl, rfl, Nat.le_refl _, fun _ _ => rfl⟩⟩
  · have hl1 : ((xs.length : Int) != (ys.length : Int)) = true := by simp; omega
    have HE : Hid (decide (xs = ys) = false) := (show _ = _ from decide_eq_false fun e => hl (by rw [e]))
    clear hl
    go_enter Tryz.func83, Tryz.ntmps83
    go_wp2
    go_ret
    exact ⟨retB HE.out.symm, Below.refl _ _⟩
end Go.Proofs.YtnclddfljghebaaGreatDoor

namespace Go.Proofs.YtnclddfljghebaaGreatDoor
open Go.RowKit

/-- Which of two numbers is greater. -/
def cmpI (x y : Int) : Int := if x < y then -1 else if y < x then 1 else 0
theorem cmpI_bd (x y : Int) : -1 ≤ cmpI x y ∧ cmpI x y ≤ 1 := by unfold cmpI; (repeat' split) <;> omega
/-- A dyad's size in units of 2^-65536. -/
def sz (d : Dy) : Nat := vl d.mag * 2 ^ (d.exp + 65536).toNat
theorem bl_mono {x y : Nat} (h : bl x < bl y) : x < y := Nat.lt_of_not_le fun hle => by
  have := bl_le_iff.2 (Nat.lt_of_le_of_lt hle (bl_le_iff.1 (Nat.le_refl (bl x))))
  omega
theorem bl_sz {d : Dy} (h0 : vl d.mag ≠ 0) (he : -65536 ≤ d.exp) : (bl (sz d) : Int) = bl (vl d.mag) + d.exp + 65536 := by
  unfold sz; rw [bl_mul_pow h0]; omega
/-- A size, its highest bit at the top of n limbs. -/
def upA (v n : Nat) : Nat := v * 2 ^ (64 * n - bl v)
theorem upA_lt {v n : Nat} (h : bl v ≤ 64 * n) : upA v n < 2 ^ (64 * n) := by
  unfold upA
  have h1 : v < 2 ^ bl v := bl_le_iff.1 (Nat.le_refl _)
  calc v * 2 ^ (64 * n - bl v) < 2 ^ bl v * 2 ^ (64 * n - bl v) := Nat.mul_lt_mul_of_pos_right h1 (Nat.two_pow_pos _)
    _ = 2 ^ (64 * n) := by rw [← Nat.pow_add, show bl v + (64 * n - bl v) = 64 * n by omega]
theorem win_top {v n i : Nat} (h : bl v ≤ 64 * n) (hi : i < n) : win v ((bl v : Int) - ((i : Int) + 1) * 64) = upA v n / 2 ^ (64 * (n - 1 - i)) % 18446744073709551616 := by
  have := win_up v (64 * n - bl v) (n - 1 - i)
  unfold upA
  rw [← this]
  congr 1
  omega
theorem upA_sz {d : Dy} {n T : Nat} (_h0 : vl d.mag ≠ 0) (he : -65536 ≤ d.exp) (h : bl (vl d.mag) ≤ 64 * n) (hT : (T : Int) = bl (vl d.mag) + d.exp + 65536) : upA (vl d.mag) n * 2 ^ T = sz d * 2 ^ (64 * n) := by
  unfold upA sz
  rw [Nat.mul_assoc, ← Nat.pow_add, Nat.mul_assoc, ← Nat.pow_add, show 64 * n - bl (vl d.mag) + T = (d.exp + 65536).toNat + 64 * n by omega]
/-- Where the tops are one: which is greater is told by the sizes laid at the top. -/
theorem cmp_top {a b : Dy} {n : Nat} (a0 : vl a.mag ≠ 0) (b0 : vl b.mag ≠ 0) (ea : -65536 ≤ a.exp) (eb : -65536 ≤ b.exp) (ha : bl (vl a.mag) ≤ 64 * n) (hb : bl (vl b.mag) ≤ 64 * n)
    (ht : (bl (vl a.mag) : Int) + a.exp = bl (vl b.mag) + b.exp) :
    (upA (vl a.mag) n < upA (vl b.mag) n → sz a < sz b) ∧ (upA (vl b.mag) n < upA (vl a.mag) n → sz b < sz a) ∧ (upA (vl a.mag) n = upA (vl b.mag) n → sz a = sz b) := by
  have e1 := upA_sz (T := (bl (vl a.mag) + a.exp + 65536 : Int).toNat) a0 ea ha (by omega)
  have e2 := upA_sz (T := (bl (vl a.mag) + a.exp + 65536 : Int).toNat) b0 eb hb (by omega)
  generalize (bl (vl a.mag) + a.exp + 65536 : Int).toNat = T at *
  have hp := Nat.two_pow_pos T
  have hq := Nat.two_pow_pos (64 * n)
  refine ⟨fun h => ?_, fun h => ?_, fun h => ?_⟩
  · have := Nat.mul_lt_mul_of_pos_right h hp
    rw [e1, e2] at this
    exact Nat.lt_of_mul_lt_mul_right this
  · have := Nat.mul_lt_mul_of_pos_right h hp
    rw [e1, e2] at this
    exact Nat.lt_of_mul_lt_mul_right this
  · rw [h, e2] at e1
    exact Nat.eq_of_mul_eq_mul_right hq e1.symm

set_option maxHeartbeats 400000 in
theorem sameDyad_any (a b : Dy) (ao bo : Option Addr) (cap bcap : Nat) (w : World) (hr : LRow w ao a.mag) (hs : LRow w bo b.mag) (hn : a.mag.length ≤ 1125899906842624) :
    Calls Tryz.prog 59 #[.agg #[.bool a.neg, .slice ao a.mag.length cap, .int .i64 a.exp], .agg #[.bool b.neg, .slice bo b.mag.length bcap, .int .i64 b.exp]] w fun e w' => e = .returned (.bool (eqB a b)) ∧ Below w.heap.size w w' := by
  obtain ⟨n1, m1, e1⟩ := a
  obtain ⟨n2, m2, e2⟩ := b
  simp only at *
  have hend : ∀ o1 o2, Below w.heap.size w ((w.alloc o1).alloc o2) := fun o1 o2 => (((Below.refl _ _).alloc (Nat.le_refl _) o1).alloc (by simp) o2)
  by_cases hn1 : n1 = n2
  · have b1 : (n1 == n2) = true := by simp [hn1]
    by_cases hm : m1 = m2
    · have hd : decide (m1 = m2) = true := decide_eq_true hm
      have HE : Hid (eqB ⟨n1, m1, e1⟩ ⟨n2, m2, e2⟩ = (e1 == e2)) := (show _ = _ by rw [Bool.eq_iff_iff, eqB_iff]; simp [hn1, hm])
      clear hm hn1
      go_enter Tryz.func59, Tryz.ntmps59
      go_wp2_with (go_at_call 83; refine (sameLimbs_any _ _ _ _ _ _ _ ((hr.alloc _).alloc _) ((hs.alloc _).alloc _) hn).mono ?_; rintro e w1 ⟨rfl, hb⟩; obtain ⟨⟨c0, c1, c2⟩, ⟨d0, d1, d2⟩, _⟩ := box2 hb)
      go_ret
      exact ⟨retB HE.out.symm, box2_old hb⟩
    · have hd : decide (m1 = m2) = false := decide_eq_false hm
      have HE : Hid (eqB ⟨n1, m1, e1⟩ ⟨n2, m2, e2⟩ = false) := (show _ = _ by rw [Bool.eq_false_iff]; intro h; have := eqB_iff.1 h; simp [hm] at this)
      clear hm hn1
      go_enter Tryz.func59, Tryz.ntmps59
      go_wp2_with (go_at_call 83; refine (sameLimbs_any _ _ _ _ _ _ _ ((hr.alloc _).alloc _) ((hs.alloc _).alloc _) hn).mono ?_; rintro e w1 ⟨rfl, hb⟩; obtain ⟨⟨c0, c1, c2⟩, ⟨d0, d1, d2⟩, _⟩ := box2 hb)
      go_ret
      exact ⟨retB HE.out.symm, box2_old hb⟩
  · have b1 : (n1 == n2) = false := by simp [hn1]
    have HE : Hid (eqB ⟨n1, m1, e1⟩ ⟨n2, m2, e2⟩ = false) := (show _ = _ by rw [Bool.eq_false_iff]; intro h; have := eqB_iff.1 h; simp [hn1] at this)
    clear hn1
    go_enter Tryz.func59, Tryz.ntmps59
    go_wp2
    go_ret
    exact ⟨retB HE.out.symm, hend _ _⟩

set_option maxHeartbeats 400000 in
theorem cmpInt_any (x y : Int) (w : World) : Calls Tryz.prog 67 #[.int .i64 x, .int .i64 y] w fun e w' => e = .returned (.int .i64 (cmpI x y)) ∧ w' = w := by
  by_cases h1 : x < y
  · have HE : Hid (cmpI x y = -1) := (show _ = _ by unfold cmpI; rw [if_pos h1])
    go_enter Tryz.func67, Tryz.ntmps67
    go_wp2
    go_ret
    exact ⟨retI HE.out.symm, rfl⟩
  · by_cases h2 : y < x
    · have HE : Hid (cmpI x y = 1) := (show _ = _ by unfold cmpI; rw [if_neg h1, if_pos h2])
      go_enter Tryz.func67, Tryz.ntmps67
      go_wp2
      go_ret
      exact ⟨retI HE.out.symm, rfl⟩
    · have HE : Hid (cmpI x y = 0) := (show _ = _ by unfold cmpI; rw [if_neg h1, if_neg h2])
      go_enter Tryz.func67, Tryz.ntmps67
      go_wp2
      go_ret
      exact ⟨retI HE.out.symm, rfl⟩
set_option maxHeartbeats 400000 in
theorem cmpU_any (x y : Int) (w : World) : Calls Tryz.prog 95 #[.int .u64 x, .int .u64 y] w fun e w' => e = .returned (.int .i64 (cmpI x y)) ∧ w' = w := by
  by_cases h1 : x < y
  · have HE : Hid (cmpI x y = -1) := (show _ = _ by unfold cmpI; rw [if_pos h1])
    go_enter Tryz.func95, Tryz.ntmps95
    go_wp2
    go_ret
    exact ⟨retI HE.out.symm, rfl⟩
  · by_cases h2 : y < x
    · have HE : Hid (cmpI x y = 1) := (show _ = _ by unfold cmpI; rw [if_neg h1, if_pos h2])
      go_enter Tryz.func95, Tryz.ntmps95
      go_wp2
      go_ret
      exact ⟨retI HE.out.symm, rfl⟩
    · have HE : Hid (cmpI x y = 0) := (show _ = _ by unfold cmpI; rw [if_neg h1, if_neg h2])
      go_enter Tryz.func95, Tryz.ntmps95
      go_wp2
      go_ret
      exact ⟨retI HE.out.symm, rfl⟩
end Go.Proofs.YtnclddfljghebaaGreatDoor

namespace Go.Proofs.YtnclddfljghebaaGreatDoor
open Go.RowKit

theorem cmpI_lt {x y : Int} (h : x < y) : cmpI x y = -1 := by unfold cmpI; rw [if_pos h]
theorem cmpI_gt {x y : Int} (h : y < x) : cmpI x y = 1 := by unfold cmpI; rw [if_neg (by omega), if_pos h]
theorem cmpI_eq {x y : Int} (h : x = y) : cmpI x y = 0 := by unfold cmpI; rw [if_neg (by omega), if_neg (by omega)]
theorem cmpI_zero {x y : Int} (h : cmpI x y = 0) : x = y := by unfold cmpI at h; (repeat' split at h) <;> omega
/-- Six cells read anew behind a call. -/
theorem six_on {w1 w2 : World} (h : Below w1.heap.size w1 w2) {p q : Nat} {x0 x1 x2 y0 y1 y2 : Value}
    (hc : w1.cell? ⟨p, 0, none⟩ = some x0 ∧ w1.cell? ⟨p, 1, none⟩ = some x1 ∧ w1.cell? ⟨p, 2, none⟩ = some x2 ∧ w1.cell? ⟨q, 0, none⟩ = some y0 ∧ w1.cell? ⟨q, 1, none⟩ = some y1 ∧ w1.cell? ⟨q, 2, none⟩ = some y2) :
    w2.cell? ⟨p, 0, none⟩ = some x0 ∧ w2.cell? ⟨p, 1, none⟩ = some x1 ∧ w2.cell? ⟨p, 2, none⟩ = some x2 ∧ w2.cell? ⟨q, 0, none⟩ = some y0 ∧ w2.cell? ⟨q, 1, none⟩ = some y1 ∧ w2.cell? ⟨q, 2, none⟩ = some y2 := by
  have one : ∀ (b o : Nat) (v : Value), w1.cell? ⟨b, o, none⟩ = some v → w2.cell? ⟨b, o, none⟩ = some v := fun b o v hc => by
    rw [h.cell (World.block_lt_of_cell? w1 _ hc)]; exact hc
  exact ⟨one _ _ _ hc.1, one _ _ _ hc.2.1, one _ _ _ hc.2.2.1, one _ _ _ hc.2.2.2.1, one _ _ _ hc.2.2.2.2.1, one _ _ _ hc.2.2.2.2.2⟩
theorem two_box (w : World) (x0 x1 x2 y0 y1 y2 : Value) (s t : TypeId) :
    let W := ((w.alloc (.cells #[x0, x1, x2] s)).alloc (.cells #[y0, y1, y2] t)).drew
    W.cell? ⟨w.heap.size, 0, none⟩ = some x0 ∧ W.cell? ⟨w.heap.size, 1, none⟩ = some x1 ∧ W.cell? ⟨w.heap.size, 2, none⟩ = some x2 ∧ W.cell? ⟨w.heap.size + 1, 0, none⟩ = some y0 ∧ W.cell? ⟨w.heap.size + 1, 1, none⟩ = some y1 ∧ W.cell? ⟨w.heap.size + 1, 2, none⟩ = some y2 := by
  refine ⟨?_, ?_, ?_, ?_, ?_, ?_⟩ <;> go_simp

end Go.Proofs.YtnclddfljghebaaGreatDoor
