/- What Clone and copied answer; Mul. -/
import Derived.Test.YtokfkooffbihcaaDoorDs
namespace Go.Proofs.YtokfkooffbihcaaDoor
open Go.RowKit

set_option maxHeartbeats 400000 in
theorem clone_any (xs : List Nat) (ao : Option Addr) (cap : Nat) (w : World) (hr : LRow w ao xs) (hn : xs.length ≤ 17592186044416) :
    Calls Tryd.prog 59 #[.slice ao xs.length cap] w (GaveL w xs) := by
  obtain ⟨i0, hi, hz0, hz1, hz2⟩ := info_parts Tryd.infoU
  have hq : ∀ (w : World) (a : Option Addr) (n c n' c' : Nat), (binOp .eql 22 (.slice a n c) (.slice none n' c')).run Tryd.prog w = .ok (.bool a.isNone) w := fun w a n c n' c' => Lib.run_eql_slice_nil w _ _ a n c n' c' Tryd.underlying22
  cases ao with
  | none =>
    have hl : xs.length = 0 := by
      rcases hr with h | ⟨b, off, e, _⟩
      · exact h
      · cases e
    go_enter Tryd.func59, Tryd.ntmps59
    go_wp2
    go_ret
    exact ⟨none, 0, by rw [hl]; rfl, Or.inl hl, fun _ => ⟨rfl, hl⟩, Frs.none _, Below.refl _ _⟩
  | some ad =>
    have hnews : ∀ o, ∀ j u, (uv xs)[j]? = some u → (w.alloc o).cell? (ad.add j) = some u := by
      intro o j u hu
      obtain ⟨hj, rfl⟩ := uv_get hu
      rcases hr with h | ⟨b, off, e, hc⟩
      · omega
      · cases e
        have g := cell_alloc (hc j hj) o
        simp only [Addr.add]
        split
        · rename_i h; subst h; exact g
        · exact g
    go_enter Tryd.func59, Tryd.ntmps59
    go_wp2_with (at_builtin; refine wpList_append_own _ rfl _ _ 22 rfl w.heap.size 46 i0 (.int .u64 0) 1 8 Tryd.underlying22 hi hz0 hz1 hz2 rfl (by decide) _ 0 [] rfl (World.ownsRow_made w #[] 0 (Nat.le_refl _) (Nat.zero_le _) rfl) ad xs.length cap (uv xs) rfl (by rw [uv_length, Nat.mul_one]) (hnews _) uv_one (by unfold maxLen; omega) (by omega) (by simp) ?_; intro v' w1 hown hgrow _)
    rw [Nat.zero_add, List.nil_append] at hown
    obtain ⟨ao', cap', rfl, hrow, hcz, hfr⟩ := owned_lrow hown
    have hgrow' : (w.alloc (.cells #[] 46)).grownBy w1 (some w.heap.size) := hgrow
    clear hgrow
    go_wp2
    go_ret
    refine ⟨ao', cap', rfl, hrow, fun h => ⟨hcz h, ?_⟩, hfr, ((Below.refl _ _).alloc (Nat.le_refl _) _).grown hgrow' (by simp) (fun k hk => by cases hk; omega)⟩
    rcases hrow with h1 | ⟨b, off, h2, _⟩
    · exact h1
    · rw [h] at h2; cases h2

set_option maxHeartbeats 400000 in
theorem copied_any (d : Dy) (ao : Option Addr) (cap : Nat) (w : World) (hr : LRow w ao d.mag) (hn : d.mag.length ≤ 17592186044416) :
    Calls Tryd.prog 45 #[.agg #[.bool d.neg, .slice ao d.mag.length cap, .int .i64 d.exp]] w fun e w' => ∃ ao' cap', e = .returned (.agg #[.bool d.neg, .slice ao' d.mag.length cap', .int .i64 d.exp]) ∧ LRow w' ao' d.mag ∧ Frs w.heap.size ao' ∧ Below w.heap.size w w' := by
  obtain ⟨neg, xs, ex⟩ := d
  simp only at *
  go_enter Tryd.func45, Tryd.ntmps45
  go_wp2_with (go_at_call 59; refine (clone_any _ _ _ _ ((hr.alloc _).alloc _) hn).mono ?_; rintro e w1 ⟨ao', cap', rfl, hrow, _, hfr, hb⟩; obtain ⟨⟨c0, c1, c2⟩, ⟨d0, d1, d2⟩, ⟨f0, f1, f2⟩, g0, g1, g2⟩ := box2 hb)
  have hfr2 : Frs (w.heap.size + 2) ao' := hfr.mono (by go_simp)
  refine bodyPost_ret (v := .agg #[.bool neg, .slice ao' xs.length cap', .int .i64 ex]) (by simp [results, Tryd.results45, go_sem, d0, d1, d2]) rfl ⟨ao', cap', rfl, ?_, hfr2.mono (by omega), ?_⟩
  · exact (((hrow.box hfr2 (by omega) _ _).box hfr2 (by omega) _ _).box hfr2 (by omega) _ _).box hfr2 (by omega) _ _
  · exact ((((box2_old hb).setCell (by simp) _).setCell (by simp) _).setCell (by simp) _).setCell (by simp) _
end Go.Proofs.YtokfkooffbihcaaDoor
