/- NarrowBack at a NaN. -/
import Derived.Test.YtoggdckaimbjeaaDoorXh
import Derived.Deep.DeepCutAuto
namespace Go.Proofs.YtoggdckaimbjeaaDoor
open Go.RowKit

theorem ord_nan_any {c d : Nat} (hc : c < 18446744073709551616) (hn : nanB c = true) : FloatKind.f64.format.order c d = none := by
  have hlt : 9218868437227405312 < rung c := by simpa [nanB] using hn
  rw [fmt64]
  unfold Ieee.Format.order
  rw [read_eq c hc, if_neg (by omega), if_neg (by omega)]
  rfl
set_option maxHeartbeats 4000000 in
set_option maxRecDepth 100000 in
theorem law_back_nan (a : Nat) (m : Int) (ha : a < 4294967296) (hn : S.nanB a = true) (w : World) :
    Calls Tryd.prog 6 #[.float .f32 a, .int .i8 m] w fun e w' => e = .returned (.bool true) ∧ Below w.heap.size w w' := by
  have hA : ∀ n, n < 4294967296 → S.nanB n = true → ∀ w, Calls Tryd.prog 32 #[.float .f32 n, .float .f32 a] w fun e w' => e = .returned (.bool true) ∧ w' = w := fun n h1 h2 w => by
    have h := alike_any n a h1 ha w
    rwa [show sSame n a = true by unfold sSame; rw [h2, hn]; rfl] at h
  have hI := fun w => n_bits_yes a ha hn w
  have hS := fun w => n_same_any a a ha ha w
  rw [sSame_self] at hS
  have hq : S.nanB 2143289344 = true := by decide
  have q2 : (FloatKind.f32.format.order a a != some .eq) = true := by rw [s_ne_self a ha]; exact hn
  have ho : ∀ c, c < 18446744073709551616 → nanB c = true → ∀ d, (FloatKind.f64.format.order c d != some .eq) = true := fun c h1 h3 d => by rw [ord_nan_any h1 h3]; rfl
  go_enter Tryd.func6, Tryd.ntmps6
  go_wp2_with (first | (go_at_call 31; refine (n_back_nan _ ha hn _).mono ?_; rintro e w' ⟨c, rfl, c1, c2, rfl⟩; have qc := ho c c2 c1) | (go_at_call 12; refine (n_to_nan _ _ (by assumption) (by assumption) _).mono ?_; rintro e w1 ⟨n, rfl, n1, n2, b1⟩) | (go_at_call 32; refine (hA _ (by first | assumption | omega) (by assumption) _).mono ?_; rintro e w' ⟨rfl, rfl⟩) | (go_at_call 15; refine (hI _).mono ?_; rintro e w' ⟨rfl, rfl⟩) | (go_at_call 17; refine (n_from_any 2143289344 _).mono ?_; rintro e w' ⟨rfl, rfl⟩) | (go_at_call 24; refine (n_fits_nan _ (by assumption) (by assumption) _).mono ?_; rintro e w2 ⟨rfl, b2⟩) | (go_at_call 18; refine (hS _).mono ?_; rintro e w3 ⟨rfl, b3⟩) | (go_at_call 14; refine (n_next_nan _ _ ha hn _).mono ?_; rintro e w' ⟨rfl, rfl⟩) | (go_at_call 25; refine (n_awake _).mono ?_; rintro e w' ⟨rfl, rfl⟩))
  go_ret
  have B1 := (below_drew1 w).trans (b1.mono (below_drew1 w).size)
  have B2 := (B1.drew.drew).trans (b2.mono B1.drew.drew.size)
  have B3 := B2.trans (b3.mono B2.size)
  exact ⟨rfl, B3.drew.drew.drew.drew⟩
theorem law_back (a : Nat) (m : Int) (ha : a < 4294967296) (w : World) :
    Calls Tryd.prog 6 #[.float .f32 a, .int .i8 m] w fun e w' => e = .returned (.bool true) ∧ Below w.heap.size w w' := by
  cases hn : S.nanB a
  · exact law_back_num a m ha hn w
  · exact law_back_nan a m ha hn w
theorem law_back_t (a : Nat) (m : Int) (ha : a < 4294967296) (w : World) (_hT : TabW w) :
    Calls Tryd.prog 6 #[.float .f32 a, .int .i8 m] w fun e w' => e = .returned (.bool true) ∧ Below w.heap.size w w' := law_back a m ha w
end Go.Proofs.YtoggdckaimbjeaaDoor
