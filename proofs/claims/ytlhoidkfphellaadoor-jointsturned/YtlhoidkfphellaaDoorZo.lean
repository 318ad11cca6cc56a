/- What Of and Int answer. -/
import Derived.Test.YtlhoidkfphellaaDoorZl
import Derived.Test.YtlhoidkfphellaaDoorDr
import Derived.Test.YtlhoidkfphellaaDoorWj
import Derived.Test.YtlhoidkfphellaaDoorZp
import Derived.Test.YtlhoidkfphellaaDoorDx
namespace Go.Proofs.YtlhoidkfphellaaDoor
open Go.RowKit

/-- How a size is rounded. -/
def szm (neg : Bool) (m : Int) : Int := if m = 3 ∨ (m = 1 ∧ neg = false) ∨ (m = 2 ∧ neg = true) then 3 else if m = 1 ∨ m = 2 then 2 else 0
theorem szm_is (neg : Bool) (m : Int) : szm neg m = 0 ∨ szm neg m = 2 ∨ szm neg m = 3 := by unfold szm; (repeat' split) <;> simp

theorem join_one {last : Int} (h1 : -1074 ≤ last) (h2 : last ≤ 971) : joinF false 1 last = pw last ∧ okP 1 last = true := by
  have l1 : Nat.log2 1 = 0 := by decide
  have e : jR 1 last = pw last := by
    unfold jR jU jM pw
    rw [l1]
    by_cases hc : last < -1022
    · rw [if_neg (by omega), if_neg (by omega), if_pos hc]; omega
    · rw [if_pos (by omega), if_pos (by omega), if_neg hc]; omega
  have hp := (pw_ok h1 (show last ≤ 1023 by omega)).1
  have hk : okP 1 last = true := by unfold okP; rw [if_neg (by omega), e]; simp; omega
  refine ⟨?_, hk⟩
  simp [joinF, valR, hk, e]

theorem one_box {w w1 : World} {x0 x1 x2 : Value} {s : TypeId} (hb : Below (w.alloc (.cells #[x0, x1, x2] s)).heap.size (w.alloc (.cells #[x0, x1, x2] s)) w1) :
    (w1.cell? ⟨w.heap.size, 0, none⟩ = some x0 ∧ w1.cell? ⟨w.heap.size, 1, none⟩ = some x1 ∧ w1.cell? ⟨w.heap.size, 2, none⟩ = some x2) ∧ Below w.heap.size w w1 := by
  obtain ⟨hc, hf⟩ := oldc hb
  have l0 : w.heap.size < (w.alloc (.cells #[x0, x1, x2] s)).heap.size := by go_simp
  refine ⟨⟨?_, ?_, ?_⟩, ((Below.refl _ _).alloc (Nat.le_refl _) _).trans (hb.mono (by omega))⟩
  · rw [hc _ _ l0]; go_simp
  · rw [hc _ _ l0]; go_simp
  · rw [hc _ _ l0]; go_simp
end Go.Proofs.YtlhoidkfphellaaDoor

namespace Go.Proofs.YtlhoidkfphellaaDoor
open Go.RowKit

end Go.Proofs.YtlhoidkfphellaaDoor

namespace Go.Proofs.YtlhoidkfphellaaDoor
open Go.RowKit

/-- The answer of Round: a word. -/
def rndW (d : Dy) (m : Int) : Nat := if d.mag.length = 0 then 0 else if d.neg then 9223372036854775808 + rSz (vl d.mag) d.exp (szm d.neg m) else rSz (vl d.mag) d.exp (szm d.neg m)
theorem rSz_lt (v : Nat) (e m : Int) (h0 : v ≠ 0) : rSz v e m ≤ 9218868437227405312 := by
  unfold rSz
  by_cases hg : 1024 < (bl v : Int) + e
  · rw [if_pos hg]; split <;> omega
  · rw [if_neg hg]
    obtain ⟨k1, k2, k3, k4, k5⟩ := kept_bd h0 (show (bl v : Int) + e ≤ 1024 by omega)
    exact rW_lt (by unfold rKp; split <;> omega) k4

end Go.Proofs.YtlhoidkfphellaaDoor

namespace Go.Proofs.YtlhoidkfphellaaDoor
open Go.RowKit

/-- The dyad of a float. -/
def ofD (a : Nat) : Dy × Int := if finB a = false then (dy0, 5) else if spF a = 0 then (dy0, 0) else (⟨sgn a, [spF a], spE a⟩, 0)

theorem one_mark {w w1 : World} {x0 x1 x2 : Value} {s : TypeId} (hb : Below (w.alloc (.cells #[x0, x1, x2] s)).heap.size (w.alloc (.cells #[x0, x1, x2] s)) w1) :
    w1.frozen? ⟨w.heap.size, 0, none⟩ = false ∧ w1.frozen? ⟨w.heap.size, 1, none⟩ = false ∧ w1.frozen? ⟨w.heap.size, 2, none⟩ = false := by
  obtain ⟨hc, hf⟩ := oldc hb
  have l0 : w.heap.size < (w.alloc (.cells #[x0, x1, x2] s)).heap.size := by go_simp
  refine ⟨?_, ?_, ?_⟩
  · rw [hf _ _ l0]; go_simp
  · rw [hf _ _ l0]; go_simp
  · rw [hf _ _ l0]; go_simp
theorem mark_alloc {w : World} {a : Addr} {v : Value} (h : w.cell? a = some v) (hf : w.frozen? a = false) (o : Obj) : (w.alloc o).frozen? a = false := by
  rw [((Below.refl _ _).alloc (Nat.le_refl _) o).frozen (World.block_lt_of_cell? w _ h)]; exact hf
theorem one_lrow (w : World) (x : Nat) (o : Obj) (ho : o = .cells #[.int .u64 (x : Nat)] 76) : LRow (w.alloc o) (some ⟨w.heap.size, 0, none⟩) [x] := by
  right
  refine ⟨w.heap.size, 0, rfl, fun j hj => ?_⟩
  have : j = 0 := by simp at hj; omega
  subst this
  subst ho
  go_simp

set_option maxHeartbeats 1000000 in
theorem Of_any (a : Nat) (ha : a < 18446744073709551616) (w : World) (hT : TabW w) :
    Calls Tryd.prog 18 #[.float .f64 a] w (Gave w (ofD a)) := by
  cases hf : finB a
  · have e : ofD a = (dy0, 5) := by unfold ofD; rw [if_pos hf]
    rw [e]
    have hsp := fun o => split_inf a ha hf (w.alloc o)
    go_enter Tryd.func18, Tryd.ntmps18
    clear e
    go_wp2_with (go_at_call 38; refine (hsp _).mono ?_; rintro e w1 ⟨rfl, hb1⟩; obtain ⟨⟨c0, c1, c2⟩, ho1⟩ := one_box hb1; obtain ⟨f0, f1, f2⟩ := one_mark hb1; have g0 := mark_alloc c0 f0; have g1 := mark_alloc c1 f1; have g2 := mark_alloc c2 f2; have i0 := fun o => mark_alloc (cell_alloc c0 o) (g0 o); have i1 := fun o => mark_alloc (cell_alloc c1 o) (g1 o); have i2 := fun o => mark_alloc (cell_alloc c2 o) (g2 o); have d0 := cell_alloc c0; have d1 := cell_alloc c1; have d2 := cell_alloc c2; have h0 := fun o => cell_alloc (d0 o); have h1 := fun o => cell_alloc (d1 o); have h2 := fun o => cell_alloc (d2 o))
    exact bodyPost_ret (v := .tuple #[.agg #[.bool false, .slice none 0 0, .int .i64 0], .int .i64 5]) (by simp [results, Tryd.results18, go_sem, d0, d1, d2]) rfl ⟨none, 0, rfl, LRow.nil _ _, Frs.none _, (((ho1.alloc ho1.size _).setCell (by simp) _).setCell (by simp) _).setCell (by simp) _⟩
  · have hsp := fun o => split_fin a ha hf (w.alloc o) (tabW_alloc hT o)
    by_cases h0 : spF a = 0
    · have e : ofD a = (dy0, 0) := by unfold ofD; rw [if_neg (by rw [hf]; simp), if_pos h0]
      rw [e]
      rw [h0] at hsp
      clear e h0
      generalize sgn a = sg at *
      generalize spE a = se at *
      go_enter Tryd.func18, Tryd.ntmps18
      go_wp2_with (go_at_call 38; refine (hsp _).mono ?_; rintro e w1 ⟨rfl, hb1⟩; obtain ⟨⟨c0, c1, c2⟩, ho1⟩ := one_box hb1; obtain ⟨f0, f1, f2⟩ := one_mark hb1; have g0 := mark_alloc c0 f0; have g1 := mark_alloc c1 f1; have g2 := mark_alloc c2 f2; have i0 := fun o => mark_alloc (cell_alloc c0 o) (g0 o); have i1 := fun o => mark_alloc (cell_alloc c1 o) (g1 o); have i2 := fun o => mark_alloc (cell_alloc c2 o) (g2 o); have d0 := cell_alloc c0; have d1 := cell_alloc c1; have d2 := cell_alloc c2; have h0 := fun o => cell_alloc (d0 o); have h1 := fun o => cell_alloc (d1 o); have h2 := fun o => cell_alloc (d2 o))
      exact bodyPost_ret (v := .tuple #[.agg #[.bool false, .slice none 0 0, .int .i64 0], .int .i64 0]) (by simp [results, Tryd.results18, go_sem, d0, d1, d2]) rfl ⟨none, 0, rfl, LRow.nil _ _, Frs.none _, (((ho1.alloc ho1.size _).setCell (by simp) _).setCell (by simp) _).setCell (by simp) _⟩
    · have e : ofD a = (⟨sgn a, [spF a], spE a⟩, 0) := by unfold ofD; rw [if_neg (by rw [hf]; simp), if_neg h0]
      rw [e]
      have hb0 : ((spF a : Int) == 0) = false := by simp; omega
      clear e h0
      generalize sgn a = sg at *
      generalize spF a = sf at *
      generalize spE a = se at *
      go_enter Tryd.func18, Tryd.ntmps18
      go_wp2_with (go_at_call 38; refine (hsp _).mono ?_; rintro e w1 ⟨rfl, hb1⟩; obtain ⟨⟨c0, c1, c2⟩, ho1⟩ := one_box hb1; obtain ⟨f0, f1, f2⟩ := one_mark hb1; have g0 := mark_alloc c0 f0; have g1 := mark_alloc c1 f1; have g2 := mark_alloc c2 f2; have i0 := fun o => mark_alloc (cell_alloc c0 o) (g0 o); have i1 := fun o => mark_alloc (cell_alloc c1 o) (g1 o); have i2 := fun o => mark_alloc (cell_alloc c2 o) (g2 o); have d0 := cell_alloc c0; have d1 := cell_alloc c1; have d2 := cell_alloc c2; have h0 := fun o => cell_alloc (d0 o); have h1 := fun o => cell_alloc (d1 o); have h2 := fun o => cell_alloc (d2 o))
      have hsz : (w1.alloc (.cells #[.bool sg, .int .u64 (sf : Nat), .int .i64 se] 78)).heap.size = w1.heap.size + 1 := by go_simp
      have hl := one_lrow (w1.alloc (.cells #[.bool sg, .int .u64 (sf : Nat), .int .i64 se] 78)) sf _ rfl
      rw [hsz] at hl
      have hge := ho1.size
      have hfr : Frs (w1.heap.size + 1) (some ⟨w1.heap.size + 1, 0, none⟩) := fun a e => by cases e; exact Nat.le_refl _
      exact bodyPost_ret (v := .tuple #[.agg #[.bool sg, .slice (some ⟨w1.heap.size + 1, 0, none⟩) 1 1, .int .i64 se], .int .i64 0]) (by simp [results, Tryd.results18, go_sem, h0, h1, h2]) rfl ⟨some ⟨w1.heap.size + 1, 0, none⟩, 1, rfl, ((hl.box hfr (by omega) _ _).box hfr (by omega) _ _).box hfr (by omega) _ _, hfr.mono (by omega), (((((ho1.alloc ho1.size _).alloc (by simp; omega) _).setCell (by simp) _).setCell (by simp) _).setCell (by simp) _)⟩

/-- The dyad of a whole number. -/
def intD (n : Int) : Dy := (normD ⟨decide (n < 0), [n.natAbs], 0⟩).1
def GaveD (w : World) (d : Dy) (e : Ending) (w' : World) : Prop :=
  ∃ ao cap, e = .returned (.agg #[.bool d.neg, .slice ao d.mag.length cap, .int .i64 d.exp]) ∧ LRow w' ao d.mag ∧ Frs w.heap.size ao ∧ Below w.heap.size w w'

set_option maxHeartbeats 1000000 in
theorem Int_any (n : Int) (h1 : -9223372036854775808 ≤ n) (h2 : n ≤ 9223372036854775807) (w : World) (hT : TabW w) :
    Calls Tryd.prog 21 #[.int .i64 n] w (GaveD w (intD n)) := by
  obtain ⟨⟨⟨rn, rm, re⟩, rk⟩, hrr⟩ : ∃ r, normD ⟨decide (n < 0), [n.natAbs], 0⟩ = r := ⟨_, rfl⟩
  have e : intD n = ⟨rn, rm, re⟩ := by unfold intD; rw [hrr]
  rw [e]
  have hLm : Lm [n.natAbs] := fun x hx => by simp at hx; omega
  obtain ⟨na, hna⟩ : ∃ na, n.natAbs = na := ⟨_, rfl⟩
  rw [hna] at hrr hLm
  have hnm := fun W o ho hT' => norm_any ⟨decide (n < 0), [na], 0⟩ (some ⟨World.heap W |>.size, 0, none⟩) 1 (World.alloc W o) (one_lrow W na o ho) hLm hT' (by simp)
  rw [hrr] at hnm
  simp only [List.length_singleton] at hnm
  clear hrr e
  have hsz : (w.alloc (.cells #[.bool false, .slice none 0 0, .int .i64 0] 46)).heap.size = w.heap.size + 1 := by go_simp
  have hN := hnm (w.alloc (.cells #[.bool false, .slice none 0 0, .int .i64 0] 46)) _ rfl (tabW_alloc (tabW_alloc hT _) _)
  rw [hsz] at hN
  have hbox : ∀ w1, Below ((w.alloc (.cells #[.bool false, .slice none 0 0, .int .i64 0] 46)).alloc (.cells #[.int .u64 (na : Nat)] 76)).heap.size ((w.alloc (.cells #[.bool false, .slice none 0 0, .int .i64 0] 46)).alloc (.cells #[.int .u64 (na : Nat)] 76)) w1 → Below (w.alloc (.cells #[.bool false, .slice none 0 0, .int .i64 0] 46)).heap.size (w.alloc (.cells #[.bool false, .slice none 0 0, .int .i64 0] 46)) w1 := fun w1 hb => ((Below.refl _ _).alloc (Nat.le_refl _) _).trans (hb.mono (by go_simp))
  clear hnm hsz
  by_cases hn : n < 0
  · have hd : decide (n < 0) = true := decide_eq_true hn
    have hw : IntKind.u64.wrap n = 18446744073709551616 + n := by rw [IntKind.wrap_u64]; omega
    have hw2 : IntKind.u64.wrap (-(18446744073709551616 + n)) = (na : Int) := by rw [IntKind.wrap_u64]; omega
    rw [hd] at hN
    clear hna
    go_enter Tryd.func21, Tryd.ntmps21
    go_wp2_with (go_at_call 40; refine hN.mono ?_; rintro e w1 ⟨ao', cap', rfl, hrow, hfr, hb0⟩; have hb1 := hbox _ hb0; obtain ⟨⟨c0, c1, c2⟩, ho1⟩ := one_box hb1; obtain ⟨f0, f1, f2⟩ := one_mark hb1; have g0 := mark_alloc c0 f0; have g1 := mark_alloc c1 f1; have g2 := mark_alloc c2 f2; have d0 := cell_alloc c0; have d1 := cell_alloc c1; have d2 := cell_alloc c2)
    have hfr2 : Frs (w.heap.size + 1) ao' := hfr.mono (by go_simp)
    exact bodyPost_ret (v := .agg #[.bool rn, .slice ao' rm.length cap', .int .i64 re]) (by simp [results, Tryd.results21, go_sem, d0, d1, d2]) rfl ⟨ao', cap', rfl, (((hrow.alloc _).box hfr2 (by omega) _ _).box hfr2 (by omega) _ _).box hfr2 (by omega) _ _, hfr2.mono (by omega), ((((ho1.alloc ho1.size _).setCell (by simp) _).setCell (by simp) _).setCell (by simp) _)⟩
  · have hd : decide (n < 0) = false := decide_eq_false hn
    have hnn : n = (na : Int) := by omega
    rw [hd] at hN
    subst hnn
    have hw : IntKind.u64.wrap (na : Int) = (na : Int) := by rw [IntKind.wrap_u64]; omega
    clear hna
    go_enter Tryd.func21, Tryd.ntmps21
    go_wp2_with (go_at_call 40; refine hN.mono ?_; rintro e w1 ⟨ao', cap', rfl, hrow, hfr, hb0⟩; have hb1 := hbox _ hb0; obtain ⟨⟨c0, c1, c2⟩, ho1⟩ := one_box hb1; obtain ⟨f0, f1, f2⟩ := one_mark hb1; have g0 := mark_alloc c0 f0; have g1 := mark_alloc c1 f1; have g2 := mark_alloc c2 f2; have d0 := cell_alloc c0; have d1 := cell_alloc c1; have d2 := cell_alloc c2)
    have hfr2 : Frs (w.heap.size + 1) ao' := hfr.mono (by go_simp)
    exact bodyPost_ret (v := .agg #[.bool rn, .slice ao' rm.length cap', .int .i64 re]) (by simp [results, Tryd.results21, go_sem, d0, d1, d2]) rfl ⟨ao', cap', rfl, (((hrow.alloc _).box hfr2 (by omega) _ _).box hfr2 (by omega) _ _).box hfr2 (by omega) _ _, hfr2.mono (by omega), ((((ho1.alloc ho1.size _).setCell (by simp) _).setCell (by simp) _).setCell (by simp) _)⟩
end Go.Proofs.YtlhoidkfphellaaDoor
