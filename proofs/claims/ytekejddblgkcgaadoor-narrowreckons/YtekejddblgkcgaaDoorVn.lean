/- NarrowNumbers: the walk. -/
import Derived.Test.YtekejddblgkcgaaDoorVt
import Derived.Test.YtekejddblgkcgaaDoorXj
namespace Go.Proofs.YtekejddblgkcgaaDoor
open Go.RowKit

theorem NS_lit {o : Option Nat} {n z : Nat} (h : NS o n) (e : o.map nrW = some z) : n = z := by
  cases o with
  | none => cases e
  | some v => simp only [Option.map_some, Option.some.injEq] at e; rw [← e]; exact h.2
set_option maxHeartbeats 400000 in
theorem n_fits_any (x : Nat) (hx : x < 18446744073709551616) (nx : nanB x = false) (w : World) :
    Calls Tryd.prog 10 #[.float .f64 x] w fun e w' => e = .returned (.bool (sameB (bk (toS x 0)) x)) ∧ w' = w := by
  obtain ⟨t1, t2, _⟩ := toS_ok x 0
  obtain ⟨_, _, h3, h4⟩ := bk_parts t1
  have ht := n_to_all x 0 hx nx
  go_enter Tryd.func10, Tryd.ntmps10
  go_wp2_with (first | (go_at_call 5; refine (ht _).mono ?_; rintro e w' ⟨rfl, rfl⟩) | (go_at_call 9; refine (n_back_any _ t2 t1 _).mono ?_; rintro e w' ⟨rfl, rfl⟩) | (go_at_call 32; refine (same_any _ _ h3 hx _).mono ?_; rintro e w' ⟨rfl, rfl⟩))
  go_ret
  exact ⟨rfl, rfl⟩
end Go.Proofs.YtekejddblgkcgaaDoor
