/- What turned, top, sign, CopyLimbs, CopyDyad, SameLimbs, SameDyad answer. -/
import Derived.Test.YtokfkooffbihcaaDoorDj
import Derived.OwnWalk
import Derived.Laws.AppendOwnNone
namespace Go.Proofs.YtokfkooffbihcaaDoor
open Go.RowKit

/-- A dyad with its sign turned. -/
def trn (d : Dy) : Dy := ⟨!d.neg && decide (0 < d.mag.length), d.mag, d.exp⟩

set_option maxHeartbeats 400000 in
theorem turned_any (d : Dy) (ao : Option Addr) (cap : Nat) (w : World) :
    Calls Tryd.prog 28 #[.agg #[.bool d.neg, .slice ao d.mag.length cap, .int .i64 d.exp]] w fun e w' => e = .returned (.agg #[.bool (trn d).neg, .slice ao d.mag.length cap, .int .i64 d.exp]) ∧ Below w.heap.size w w' := by
  obtain ⟨neg, xs, ex⟩ := d
  have hend : ∀ o1 o2, Below w.heap.size w ((w.alloc o1).alloc o2) := fun o1 o2 => (((Below.refl _ _).alloc (Nat.le_refl _) o1).alloc (by simp) o2)
  simp only at *
  cases neg
  · by_cases h0 : (0 : Int) < (xs.length : Int)
    · have HE : Hid ((trn ⟨false, xs, ex⟩).neg = true) := (show (trn ⟨false, xs, ex⟩).neg = true by simp only [trn]; simp; omega)
      go_enter Tryd.func28, Tryd.ntmps28
      go_wp2
      rw [HE.out]
      exact bodyPost_ret (v := .agg #[.bool true, .slice ao xs.length cap, .int .i64 ex]) (by simp [results, Tryd.results28, go_sem]; omega) rfl ⟨rfl, hend _ _⟩
    · have HE : Hid ((trn ⟨false, xs, ex⟩).neg = false) := (show (trn ⟨false, xs, ex⟩).neg = false by simp only [trn]; simp; exact List.eq_nil_of_length_eq_zero (by omega))
      have h1 : decide ((0 : Int) < (xs.length : Int)) = false := decide_eq_false h0
      have HZ : Hid (xs = []) := (show xs = [] from List.eq_nil_of_length_eq_zero (by omega))
      clear h0
      go_enter Tryd.func28, Tryd.ntmps28
      go_wp2
      rw [HE.out]
      exact bodyPost_ret (v := .agg #[.bool false, .slice ao xs.length cap, .int .i64 ex]) (by simp [results, Tryd.results28, go_sem]; exact HZ.out) rfl ⟨rfl, hend _ _⟩
  · go_enter Tryd.func28, Tryd.ntmps28
    go_wp2
    exact bodyPost_ret (v := .agg #[.bool false, .slice ao xs.length cap, .int .i64 ex]) (by simp [results, Tryd.results28, go_sem]) rfl ⟨rfl, hend _ _⟩

def sgD (d : Dy) : Int := if d.mag.length = 0 then 0 else if d.neg then -1 else 1
set_option maxHeartbeats 400000 in
theorem sign_any (d : Dy) (ao : Option Addr) (cap : Nat) (w : World) :
    Calls Tryd.prog 23 #[.agg #[.bool d.neg, .slice ao d.mag.length cap, .int .i64 d.exp]] w fun e w' => e = .returned (.int .i64 (sgD d)) ∧ Below w.heap.size w w' := by
  obtain ⟨neg, xs, ex⟩ := d
  have hend : ∀ o1, Below w.heap.size w (w.alloc o1) := fun o1 => (Below.refl _ _).alloc (Nat.le_refl _) o1
  simp only at *
  by_cases h0 : xs.length = 0
  · have HE : Hid (sgD ⟨neg, xs, ex⟩ = 0) := (show _ = _ by unfold sgD; rw [if_pos (by exact h0)])
    have h1 : ((xs.length : Int) == 0) = true := beq_iff_eq.2 (by omega)
    clear h0
    go_enter Tryd.func23, Tryd.ntmps23
    go_wp2
    go_ret
    exact ⟨retI HE.out.symm, hend _⟩
  · have h1 : ((xs.length : Int) == 0) = false := beq_eq_false_iff_ne.2 (by omega)
    have HE : Hid (sgD ⟨neg, xs, ex⟩ = if neg then -1 else 1) := (show _ = _ by unfold sgD; rw [if_neg (by exact h0)])
    clear h0
    cases neg
    all_goals
      go_enter Tryd.func23, Tryd.ntmps23
      go_wp2
      go_ret
      exact ⟨retI HE.out.symm, hend _⟩

set_option maxHeartbeats 400000 in
theorem top_any (d : Dy) (ao : Option Addr) (cap : Nat) (w : World) (hr : LRow w ao d.mag) (hL : Lm d.mag) (hn : d.mag.length ≤ 1125899906842624) (h1 : -1000000 ≤ d.exp) (h2 : d.exp ≤ 1000000) :
    Calls Tryd.prog 42 #[.agg #[.bool d.neg, .slice ao d.mag.length cap, .int .i64 d.exp]] w fun e w' => e = .returned (.int .i64 ((bl (vl d.mag) : Int) + d.exp)) ∧ Below w.heap.size w w' := by
  obtain ⟨neg, xs, ex⟩ := d
  have hend : ∀ o1 n, Below w.heap.size w ((w.alloc o1).drewN n) := fun o1 n => by
    have h := (Below.refl w.heap.size w).alloc (Nat.le_refl _) o1
    exact ⟨h.os, h.tape, h.output, h.size, h.block⟩
  have hb : bl (vl xs) ≤ 64 * 1125899906842624 := bl_limbs hL hn
  have hwr : IntKind.i64.wrap ((bl (vl xs) : Int) + ex) = (bl (vl xs) : Int) + ex := by rw [IntKind.wrap_i64]; simp only at h1 h2; omega
  simp only at *
  go_enter Tryd.func42, Tryd.ntmps42
  go_wp2
  go_quiet ((go_at_call 31; exact Calls.quiet_of_same (bitLen_any _ _ _ _ (hr.alloc _) hL hn)))
  go_wp2
  go_ret
  exact ⟨rfl, hend _ _⟩

def uv (xs : List Nat) : List Value := xs.map fun x => .int .u64 (x : Nat)
theorem uv_length (xs : List Nat) : (uv xs).length = xs.length := by simp [uv]
theorem uv_get {xs : List Nat} {j : Nat} {u : Value} (h : (uv xs)[j]? = some u) : j < xs.length ∧ u = .int .u64 (xs.getD j 0 : Nat) := by
  unfold uv at h
  rw [List.getElem?_map] at h
  by_cases hj : j < xs.length
  · rw [List.getElem?_eq_getElem hj] at h
    simp at h
    exact ⟨hj, by rw [List.getD_eq_getElem?_getD, List.getElem?_eq_getElem hj]; exact h.symm⟩
  · rw [List.getElem?_eq_none (by omega)] at h; simp at h
theorem uv_at {xs : List Nat} {j : Nat} (hj : j < xs.length) : (uv xs)[j]? = some (.int .u64 (xs.getD j 0 : Nat)) := by
  unfold uv
  rw [List.getElem?_map, List.getElem?_eq_getElem hj, List.getD_eq_getElem?_getD, List.getElem?_eq_getElem hj]; rfl
theorem uv_one {xs : List Nat} : ∀ u ∈ uv xs, u.oneCell' = true := by
  intro u hu
  simp only [uv, List.mem_map] at hu
  obtain ⟨x, _, rfl⟩ := hu
  rfl
/-- What is owned, as limbs in memory. -/
theorem owned_lrow {w : World} {base : Nat} {t : TypeId} {v : Value} {xs : List Nat} (h : w.ownsRow base t 1 v xs.length (uv xs)) : ∃ ao cap, v = .slice ao xs.length cap ∧ LRow w ao xs ∧ (ao = none → cap = 0) ∧ Frs base ao := by
  obtain ⟨h1, h2⟩ := h
  rcases h2 with ⟨rfl, hn⟩ | ⟨g, cap, cur, rfl, hg, hh, hc⟩
  · exact ⟨none, 0, by rw [hn], Or.inl hn, fun _ => rfl, Frs.none _⟩
  · refine ⟨some ⟨g, 0, none⟩, cap, rfl, Or.inr ⟨g, 0, rfl, fun j hj => ?_⟩, fun h => (by cases h), fun a e => by cases e; exact hg⟩
    have own : w.ownsRow base t 1 (.slice (some ⟨g, 0, none⟩) xs.length cap) xs.length (uv xs) := ⟨h1, Or.inr ⟨g, cap, cur, rfl, hg, hh, hc⟩⟩
    rw [Nat.zero_add, own.cellAt j (by omega), uv_at hj]

/-- Limbs handed back in memory of their own. -/
def GaveL (w : World) (xs : List Nat) (e : Ending) (w' : World) : Prop := ∃ ao' cap', e = .returned (.slice ao' xs.length cap') ∧ LRow w' ao' xs ∧ (ao' = none → cap' = 0 ∧ xs.length = 0) ∧ Frs w.heap.size ao' ∧ Below w.heap.size w w'

set_option maxHeartbeats 400000 in
theorem copyLimbs_any (xs : List Nat) (ao : Option Addr) (cap : Nat) (w : World) (hr : LRow w ao xs) (hs : ao = none → cap = 0 ∧ xs.length = 0) (hn : xs.length ≤ 17592186044416) :
    Calls Tryd.prog 33 #[.slice ao xs.length cap] w (GaveL w xs) := by
  obtain ⟨i0, hi, hz0, hz1, hz2⟩ := info_parts Tryd.infoU
  cases ao with
  | none =>
    obtain ⟨rfl, hl⟩ := hs rfl
    have hl' : xs.length = 0 := hl
    rw [hl]
    go_enter Tryd.func33, Tryd.ntmps33
    go_wp2_with (at_builtin; refine wpList_append_own_none rfl _ _ 22 rfl w.heap.size 46 i0 1 Tryd.underlying22 hi _ 0 [] rfl (World.ownsRow_nil _ _ _ _) rfl ?_)
    go_ret
    exact ⟨none, 0, by rw [hl']; rfl, Or.inl hl', fun _ => ⟨rfl, hl'⟩, Frs.none _, Below.refl _ _⟩
  | some ad =>
    have hnews : ∀ j u, (uv xs)[j]? = some u → w.cell? (ad.add j) = some u := by
      intro j u hu
      obtain ⟨hj, rfl⟩ := uv_get hu
      rcases hr with h | ⟨b, off, e, hc⟩
      · omega
      · cases e
        have g := hc j hj
        simp only [Addr.add]
        split
        · rename_i h; subst h; exact g
        · exact g
    clear hs
    go_enter Tryd.func33, Tryd.ntmps33
    go_wp2_with (at_builtin; refine wpList_append_own _ rfl _ _ 22 rfl w.heap.size 46 i0 (.int .u64 0) 1 8 Tryd.underlying22 hi hz0 hz1 hz2 rfl (by decide) _ 0 [] rfl (World.ownsRow_nil _ _ _ _) ad xs.length cap (uv xs) rfl (by rw [uv_length, Nat.mul_one]) hnews uv_one (by unfold maxLen; omega) (by omega) (Nat.le_refl _) ?_; intro v' w1 hown hgrow _)
    rw [Nat.zero_add, List.nil_append] at hown
    obtain ⟨ao', cap', rfl, hrow, hcz, hfr⟩ := owned_lrow hown
    have hgrow' : w.grownBy w1 none := hgrow
    clear hgrow
    go_ret
    refine ⟨ao', cap', rfl, hrow, fun h => ⟨hcz h, ?_⟩, hfr, (Below.refl _ _).grown hgrow' (Nat.le_refl _) (fun k hk => by cases hk)⟩
    rcases hrow with h1 | ⟨b, off, h2, _⟩
    · exact h1
    · rw [h] at h2; cases h2

/-- Limbs stay where they are if boxes beside them are written. -/
theorem LRow.setCell {w : World} {ao : Option Addr} {xs : List Nat} (h : LRow w ao xs) {p : Addr} (v : Value) (hne : ∀ b off, ao = some ⟨b, off, none⟩ → xs.length ≠ 0 → b ≠ p.block) : LRow (w.setCell p v) ao xs := by
  by_cases hx : xs.length = 0
  · exact Or.inl hx
  · rcases h with h | ⟨b, off, rfl, hc⟩
    · exact Or.inl h
    · refine Or.inr ⟨b, off, rfl, fun j hj => ?_⟩
      have := hne b off rfl hx
      have e : (w.setCell p v).cell? ⟨b, off + j, none⟩ = w.cell? ⟨b, off + j, none⟩ := World.cell?_of_block (w := w) (Below.heap_setCell w p v b this)
      rw [e]; exact hc j hj

theorem LRow.box {w : World} {ao : Option Addr} {xs : List Nat} {B c : Nat} (h : LRow w ao xs) (hf : Frs B ao) (hc : c < B) (o : Nat) (v : Value) : LRow (w.setCell ⟨c, o, none⟩ v) ao xs :=
  h.setCell v fun b off e _ => by have h1 := hf _ e; have h2 : B ≤ b := h1; show b ≠ c; omega

set_option maxHeartbeats 400000 in
theorem copyDyad_any (d : Dy) (ao : Option Addr) (cap : Nat) (w : World) (hr : LRow w ao d.mag) (hs : ao = none → cap = 0 ∧ d.mag.length = 0) (hn : d.mag.length ≤ 17592186044416) :
    Calls Tryd.prog 14 #[.agg #[.bool d.neg, .slice ao d.mag.length cap, .int .i64 d.exp]] w fun e w' => ∃ ao' cap', e = .returned (.agg #[.bool d.neg, .slice ao' d.mag.length cap', .int .i64 d.exp]) ∧ LRow w' ao' d.mag ∧ Frs w.heap.size ao' ∧ Below w.heap.size w w' := by
  obtain ⟨neg, xs, ex⟩ := d
  simp only at *
  go_enter Tryd.func14, Tryd.ntmps14
  go_wp2_with (go_at_call 33; refine (copyLimbs_any _ _ _ _ ((hr.alloc _).alloc _) hs hn).mono ?_; rintro e w1 ⟨ao', cap', rfl, hrow, _, hfr, hb⟩; obtain ⟨⟨c0, c1, c2⟩, ⟨d0, d1, d2⟩, ⟨f0, f1, f2⟩, g0, g1, g2⟩ := box2 hb)
  have hfr2 : Frs (w.heap.size + 2) ao' := hfr.mono (by go_simp)
  refine bodyPost_ret (v := .agg #[.bool neg, .slice ao' xs.length cap', .int .i64 ex]) (by simp [results, Tryd.results14, go_sem, d0, d1, d2]) rfl ⟨ao', cap', rfl, ?_, hfr2.mono (by omega), ?_⟩
  · exact (((hrow.box hfr2 (by omega) _ _).box hfr2 (by omega) _ _).box hfr2 (by omega) _ _).box hfr2 (by omega) _ _
  · exact ((((box2_old hb).setCell (by simp) _).setCell (by simp) _).setCell (by simp) _).setCell (by simp) _

theorem sameL_eq {xs ys : List Nat} (h : xs.length = ys.length) (hk : ∀ j, j < xs.length → xs.getD j 0 = ys.getD j 0) : xs = ys := by
  apply List.ext_getElem h
  intro i h1 h2
  have := hk i h1
  rw [List.getD_eq_getElem?_getD, List.getD_eq_getElem?_getD, List.getElem?_eq_getElem h1, List.getElem?_eq_getElem h2] at this
  exact this

set_option maxHeartbeats 1000000 in
theorem sameLimbs_any (xs ys : List Nat) (ao bo : Option Addr) (cap bcap : Nat) (w : World) (hr : LRow w ao xs) (hs : LRow w bo ys) (hn : xs.length ≤ 1125899906842624) :
    Calls Tryd.prog 26 #[.slice ao xs.length cap, .slice bo ys.length bcap] w fun e w' => e = .returned (.bool (decide (xs = ys))) ∧ Below w.heap.size w w' := by
  by_cases hl : xs.length = ys.length
  · have hl1 : ((xs.length : Int) != (ys.length : Int)) = false := by rw [hl]; simp
    go_enter Tryd.func26, Tryd.ntmps26
    go_wp2
    go_loopg [5] xs.length (fun g i wr => ∃ k n : Nat, k ≤ xs.length ∧ g = xs.length - k ∧ i = .int .i64 k ∧ Hid (∀ j, j < k → xs.getD j 0 = ys.getD j 0) ∧ wr = w.drewN n)
    case atStart => exact ⟨0, 0, Nat.zero_le _, rfl, rfl, fun j h => by omega, rfl⟩
    case round =>
      obtain ⟨k, n, hk, hg, rfl, hz, rfl⟩ := hrel
      by_cases hlt : k < xs.length
      · rcases hr with h | ⟨b, off, rfl, hc⟩
        · omega
        · rcases hs with h | ⟨b2, off2, rfl, hc2⟩
          · omega
          · have g1 := hc k hlt
            have g2 := hc2 k (by omega)
            obtain ⟨x, hx⟩ : ∃ x, xs.getD k 0 = x := ⟨_, rfl⟩
            obtain ⟨y, hy⟩ : ∃ y, ys.getD k 0 = y := ⟨_, rfl⟩
            rw [hx] at g1
            rw [hy] at g2
            have HX : Hid (xs.getD k 0 = x ∧ ys.getD k 0 = y) := ⟨hx, hy⟩
            clear hc hc2 hx hy
            have i1 : (k : Int) < (xs.length : Int) := by omega
            have i2 : (k : Int) < (ys.length : Int) := by omega
            by_cases hxy : x = y
            · subst hxy
              go_wp2
              go_quiet (fail)
              go_wp2
              go_roundg (xs.length - (k + 1))
              case measure => omega
              case rel => exact ⟨k + 1, _, by omega, rfl, by go_num, fun j h => by
                by_cases e : j = k
                · rw [e, HX.out.1, HX.out.2]
                · exact hz.out j (by omega), rfl⟩
            · have hne : ((x : Int) != (y : Int)) = true := by simp; omega
              have HE : Hid (decide (xs = ys) = false) := (show _ = _ from decide_eq_false fun e => hxy (by have := HX.out; rw [e] at this; omega))
              go_wp2
              go_quiet (fail)
              go_wp2
              go_ret
              exact ⟨retB HE.out.symm, ⟨rfl, rfl, rfl, Nat.le_refl _, fun _ _ => rfl⟩⟩
      · have HE : Hid (decide (xs = ys) = true) := (show _ = _ from decide_eq_true (sameL_eq hl fun j hj => hz.out j (by omega)))
        go_wp2
        go_ret
        exact ⟨retB HE.out.symm, ⟨rfl, rfl, rfl, Nat.le_refl _, fun _ _ => rfl⟩⟩
  · have hl1 : ((xs.length : Int) != (ys.length : Int)) = true := by simp; omega
    have HE : Hid (decide (xs = ys) = false) := (show _ = _ from decide_eq_false fun e => hl (by rw [e]))
    clear hl
    go_enter Tryd.func26, Tryd.ntmps26
    go_wp2
    go_ret
    exact ⟨retB HE.out.symm, Below.refl _ _⟩
end Go.Proofs.YtokfkooffbihcaaDoor
