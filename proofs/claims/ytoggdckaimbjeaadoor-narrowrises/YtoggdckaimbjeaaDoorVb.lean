/- NarrowRises, whatever floats and way it is given: the walk. -/
import Derived.Test.YtoggdckaimbjeaaDoorVa
namespace Go.Proofs.YtoggdckaimbjeaaDoor
open Go.RowKit

set_option maxHeartbeats 800000 in
theorem rises_num (x y : Nat) (m : Int) (hx : x < 18446744073709551616) (hy : y < 18446744073709551616) (nx : nanB x = false) (ny : nanB y = false) (w : World) :
    Calls Tryd.prog 8 #[.float .f64 x, .float .f64 y, .int .i8 m] w fun e w' => e = .returned (.bool true) ∧ w' = w := by
  have cx := n_to_all x m hx nx
  have cy := n_to_all y m hy ny
  obtain ⟨a1, a2, _⟩ := toS_ok x m
  obtain ⟨b1, b2, _⟩ := toS_ok y m
  have p1 := toS_grows nx ny m
  have p2 := toS_grows ny nx m
  have o1 := le_num hx hy nx ny
  have o2 := le_num hy hx ny nx
  have q1 := s_le_num a2 b2 a1 b1
  have q2 := s_le_num b2 a2 b1 a1
  generalize toS x m = a at *
  generalize toS y m = b at *
  have aw := n_awake
  rcases (show place x < place y ∨ place x = place y ∨ place y < place x by omega) with h | h | h
  · rw [decide_eq_true (by omega)] at o1
    rw [decide_eq_false (by omega)] at o2
    rw [decide_eq_true (p1 (by omega))] at q1
    clear p1 p2 h q2
    go_enter Tryd.func8, Tryd.ntmps8
    go_wp2_with (first | (go_at_call_of 12 (Value.float FloatKind.f64 x); refine (cx _).mono ?_; rintro e w' ⟨rfl, rfl⟩) | (go_at_call_of 12 (Value.float FloatKind.f64 y); refine (cy _).mono ?_; rintro e w' ⟨rfl, rfl⟩) | (go_at_call 25; refine (aw _).mono ?_; rintro e w' ⟨rfl, rfl⟩))
    go_ret
    exact ⟨rfl, rfl⟩
  · rw [decide_eq_true (by omega)] at o1
    rw [decide_eq_true (by omega)] at o2
    rw [decide_eq_true (p1 (by omega))] at q1
    rw [decide_eq_true (p2 (by omega))] at q2
    clear p1 p2 h
    go_enter Tryd.func8, Tryd.ntmps8
    go_wp2_with (first | (go_at_call_of 12 (Value.float FloatKind.f64 x); refine (cx _).mono ?_; rintro e w' ⟨rfl, rfl⟩) | (go_at_call_of 12 (Value.float FloatKind.f64 y); refine (cy _).mono ?_; rintro e w' ⟨rfl, rfl⟩) | (go_at_call 25; refine (aw _).mono ?_; rintro e w' ⟨rfl, rfl⟩))
    go_ret
    exact ⟨rfl, rfl⟩
  · rw [decide_eq_false (by omega)] at o1
    rw [decide_eq_true (by omega)] at o2
    rw [decide_eq_true (p2 (by omega))] at q2
    clear p1 p2 h q1
    go_enter Tryd.func8, Tryd.ntmps8
    go_wp2_with (first | (go_at_call_of 12 (Value.float FloatKind.f64 x); refine (cx _).mono ?_; rintro e w' ⟨rfl, rfl⟩) | (go_at_call_of 12 (Value.float FloatKind.f64 y); refine (cy _).mono ?_; rintro e w' ⟨rfl, rfl⟩) | (go_at_call 25; refine (aw _).mono ?_; rintro e w' ⟨rfl, rfl⟩))
    go_ret
    exact ⟨rfl, rfl⟩
set_option maxHeartbeats 800000 in
theorem rises_nan (x y : Nat) (m : Int) (hx : x < 18446744073709551616) (hy : y < 18446744073709551616) (hn : nanB x = true ∨ nanB y = true) (w : World) :
    Calls Tryd.prog 8 #[.float .f64 x, .float .f64 y, .int .i8 m] w fun e w' => e = .returned (.bool true) ∧ Below w.heap.size w w' := by
  have cx := n_to_any x m hx
  have cy := n_to_any y m hy
  have o1 : FloatKind.f64.format.order x y = none := ord_nan hx hy hn
  have o2 : FloatKind.f64.format.order y x = none := ord_nan hy hx hn.symm
  have aw := n_awake
  go_enter Tryd.func8, Tryd.ntmps8
  go_wp2_with (first | (go_at_call_of 12 (Value.float FloatKind.f64 x); refine (cx _).mono ?_; rintro e w1 ⟨a, rfl, ⟨_, _, _⟩, B1⟩) | (go_at_call_of 12 (Value.float FloatKind.f64 y); refine (cy _).mono ?_; rintro e w2 ⟨b, rfl, ⟨_, _, _⟩, B2⟩) | (go_at_call 25; refine (aw _).mono ?_; rintro e w' ⟨rfl, rfl⟩))
  go_ret
  exact ⟨rfl, B1.trans (B2.mono B1.size)⟩
theorem law_rises (x y : Nat) (m : Int) (hx : x < 18446744073709551616) (hy : y < 18446744073709551616) (w : World) (_hT : TabW w) :
    Calls Tryd.prog 8 #[.float .f64 x, .float .f64 y, .int .i8 m] w fun e w' => e = .returned (.bool true) ∧ Below w.heap.size w w' := by
  cases nx : nanB x
  · cases ny : nanB y
    · exact (rises_num x y m hx hy nx ny w).mono fun e w' h => by
        obtain ⟨rfl, rfl⟩ := h
        exact ⟨rfl, Below.refl _ _⟩
    · exact rises_nan x y m hx hy (Or.inr ny) w
  · exact rises_nan x y m hx hy (Or.inl nx) w
end Go.Proofs.YtoggdckaimbjeaaDoor
