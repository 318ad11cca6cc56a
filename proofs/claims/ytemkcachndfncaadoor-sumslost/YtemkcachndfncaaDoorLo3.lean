/- What cut of layer 6's laws answers of a short list; Ldexp of 1. -/
import Derived.Test.YtemkcachndfncaaDoorLo2
import Derived.Test.YtemkcachndfncaaDoorZ4
namespace Go.Proofs.YtemkcachndfncaaDoor
open Go.RowKit

set_option maxHeartbeats 400000 in
theorem ldexp_pow (L : Int) (M : Nat) (h1 : -1022 ≤ L) (h2 : L ≤ 1023) (hM : (M : Int) = 4607182418800017408 + L * 4503599627370496) (w : World) :
    Calls Tryd.prog 15 #[.float .f64 4607182418800017408, .int .i64 L] w fun e w' => e = .returned (.float .f64 M) ∧ w' = w := by
  have e0 : (4607182418800017408 / 4503599627370496 : Nat) = 1023 := by decide
  have cl := ldexp_at 4607182418800017408 L (by decide) (by decide) (by omega) (by omega) M (Or.inr (Or.inl ⟨by rw [e0]; omega, by rw [e0]; omega, hM⟩))
  clear h1 h2 hM e0
  go_enter Tryd.func15, Tryd.ntmps15
  go_wp2_with (go_at_call 41; refine (cl _).mono ?_; rintro e w' ⟨rfl, h'⟩; subst w')
  go_ret
  exact ⟨rfl, rfl⟩
theorem lt_sizes (x : Nat) {M : Nat} (hM : M ≤ 9218868437227405312) : (FloatKind.f64.format.order (rung x) M == some .lt) = decide (rung x < M) := by
  have lx := rung_lt x
  have nM : nanB M = false := rung_nan (by rw [rung_small (by omega)]; exact hM)
  have pM : place M = M := by unfold place; rw [(rung_pos (by omega)).1, (rung_pos (by omega)).2]; rfl
  have px : place (rung x) = rung x := by unfold place; rw [(rung_pos lx).1, (rung_pos lx).2]; rfl
  by_cases c : rung x ≤ 9218868437227405312
  · have nx : nanB (rung x) = false := rung_nan (by rw [rung_small lx]; exact c)
    rcases Nat.lt_trichotomy (rung x) M with g | g | g
    · rw [ord_lt (by omega) (by omega) nx nM (by omega), decide_eq_true g]; rfl
    · rw [ord_eq (by omega) (by omega) nx nM (by omega), decide_eq_false (by omega)]; rfl
    · rw [ord_gt (by omega) (by omega) nx nM (by omega), decide_eq_false (by omega)]; rfl
  · have nx : nanB (rung x) = true := by unfold nanB; rw [rung_small lx]; exact decide_eq_true (by omega)
    rw [ord_nan (by omega) (by omega) (Or.inl nx), decide_eq_false (by omega)]; rfl
set_option maxHeartbeats 2000000 in
theorem lcut_any (xs : List Nat) (ao : Option Addr) (cap : Nat) (L : Int) (M : Nat) (w : World) (hr : GRow w ao xs) (hF : FW xs) (hn : xs.length ≤ 200) (hM : M ≤ 9218868437227405312)
    (hl : ∀ W, Calls Tryd.prog 15 #[.float .f64 4607182418800017408, .int .i64 L] W fun e w' => e = .returned (.float .f64 M) ∧ w' = W) :
    Calls Tryd.prog 8 #[.slice ao xs.length cap, .int .i64 L] w fun e w' => e = .returned (.tuple #[.slice ao xs.length cap, .bool (xs.all fun x => decide (rung x < M))]) ∧ w' = w := by
  have i0 : ¬ (200 : Int) < (xs.length : Int) := by omega
  go_enter Tryd.func8, Tryd.ntmps8
  go_wp2_with (go_at_call 15; refine (hl _).mono ?_; rintro e w' ⟨rfl, h'⟩; subst w')
  go_loopg [7] xs.length (fun g i wr => ∃ k : Nat, k ≤ xs.length ∧ g = xs.length - k ∧ i = .int .i64 k ∧ Hid (∀ j, j < k → decide (rung (xs.getD j 0) < M) = true) ∧ wr = w)
  case atStart => exact ⟨0, Nat.zero_le _, rfl, rfl, fun j h => by omega, rfl⟩
  case round =>
    obtain ⟨k, hk, hg, rfl, hz, rfl⟩ := hrel
    have HG : Hid (gk = xs.length - k) := hg
    clear hg
    by_cases hlt : k < xs.length
    · rcases hr with h | ⟨b, off, rfl, hc⟩
      · omega
      · have g1 := hc k hlt
        have hx := hF.at hlt
        obtain ⟨x, ex⟩ : ∃ x, xs.getD k 0 = x := ⟨_, rfl⟩
        rw [ex] at g1 hx
        have hf := lt_sizes x hM
        have i1 : (k : Int) < (xs.length : Int) := by omega
        cases fx : decide (rung x < M) <;> rw [fx] at hf
        · have HE : Hid ((xs.all fun x => decide (rung x < M)) = false) := (show (xs.all fun x => decide (rung x < M)) = false by
            rw [List.all_eq_false]
            refine ⟨x, ?_, by rw [fx]; decide⟩
            rw [← ex, getD_at hlt]
            exact List.getElem_mem hlt)
          clear hc ex hz fx
          go_wp2_with (go_at_call 14; refine (abs_any x hx _).mono ?_; rintro e w' ⟨rfl, rfl⟩)
          go_ret2
          exact ⟨by rw [HE.out]; rfl, rfl⟩
        · have HZ : Hid (∀ j, j < k + 1 → decide (rung (xs.getD j 0) < M) = true) := fun j h => by
            by_cases e : j = k
            · rw [e, ex]; exact fx
            · exact hz.out j (by omega)
          clear hc ex hz fx
          go_wp2_with (go_at_call 14; refine (abs_any x hx _).mono ?_; rintro e w' ⟨rfl, rfl⟩)
          go_roundg (xs.length - (k + 1))
          case measure => rw [HG.out]; omega
          case rel => exact ⟨k + 1, by omega, rfl, by go_num, HZ, rfl⟩
    · have HE : Hid ((xs.all fun x => decide (rung x < M)) = true) := (show (xs.all fun x => decide (rung x < M)) = true by
        rw [List.all_eq_true]
        intro x hx
        obtain ⟨j, hj, e⟩ := List.mem_iff_getElem.1 hx
        have := hz.out j (by omega)
        rw [getD_at hj, e] at this
        exact this)
      have i1 : ¬ (k : Int) < (xs.length : Int) := by omega
      clear hz
      go_wp2
      go_ret2
      exact ⟨by rw [HE.out]; rfl, rfl⟩
end Go.Proofs.YtemkcachndfncaaDoor
