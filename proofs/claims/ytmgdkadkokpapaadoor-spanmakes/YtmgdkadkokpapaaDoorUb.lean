/- What span's sum, Add; least and greatest (of four); product, quotient, corners; Mul, Div answer, call by call, where what round answers of their ends is known. -/
import Derived.Test.YtmgdkadkokpapaaDoorUa
import Derived.Deep.RegionHeld3
import Derived.BigQuiet
import Derived.Deep.QuietTactic
namespace Go.Proofs.YtmgdkadkokpapaaDoor
open Go.RowKit

/-- What round's calls answer, at known floats. -/
abbrev Tells3 (f : Nat) (x y : Nat) (m : Int) (r : Nat) : Prop := ∀ w, Calls Tryd.prog f #[.float .f64 x, .float .f64 y, .int .i8 m] w fun e w' => e = .returned (.float .f64 r) ∧ w' = w
theorem alls3 {w : World} {o p q : Obj} : Below w.heap.size w (((w.alloc o).alloc p).alloc q) := (((Below.refl _ _).alloc (Nat.le_refl _) _).alloc (by simp) _).alloc (by simp; omega) _
set_option maxHeartbeats 800000 in
theorem ssum_of (a b c d lo hi : Nat) (h1 : Tells3 52 a c 1 lo) (h2 : Tells3 52 b d 2 hi) (w : World) :
    Calls Tryd.prog 33 #[spV a b, spV c d] w fun e w' => e = .returned (spV lo hi) ∧ Below w.heap.size w w' := by
  have hst := run_storef Tryd.prog
  go_enter Tryd.func33, Tryd.ntmps33
  go_wp2
  go_region_held3 (fun w' => w'.cell? ⟨w.heap.size, 0, none⟩ = some (.float .f64 a) ∧ w'.cell? ⟨w.heap.size, 1, none⟩ = some (.float .f64 b) ∧ w'.cell? ⟨w.heap.size + 1, 0, none⟩ = some (.float .f64 c) ∧ w'.cell? ⟨w.heap.size + 1, 1, none⟩ = some (.float .f64 d)) (go_keep)
    (first | (go_at_call_of 52 (Value.int IntKind.i8 1); refine (h1 _).mono ?_; rintro e w' ⟨rfl, rfl⟩) | (go_at_call_of 52 (Value.int IntKind.i8 2); refine (h2 _).mono ?_; rintro e w' ⟨rfl, rfl⟩))
  go_wp2
  exact bodyPost_ret (v := spV lo hi) (by simp [results, Tryd.results33, go_sem]) rfl ⟨rfl, alls3.drew⟩
set_option maxHeartbeats 1600000 in
theorem sadd_of (a b c d lo hi : Nat) (ra : sRt a b = true) (rb : sRt c d = true) (h1 : Tells3 52 a c 1 lo) (h2 : Tells3 52 b d 2 hi) (w : World) :
    Calls Tryd.prog 13 #[spV a b, spV c d] w fun e w' => e = .returned (.tuple #[spV lo hi, .int .i64 0]) ∧ Below w.heap.size w w' := by
  have hst := run_storef Tryd.prog
  have hs := ssum_of a b c d lo hi h1 h2
  go_enter Tryd.func13, Tryd.ntmps13
  go_wp2_with (first
    | (go_at_call 32; refine (sall_two a b c d _ _ (by go_simp) (by go_simp) (by go_simp) (by go_simp) (by go_simp)).mono ?_; rw [ra, rb]; rintro e w1 ⟨rfl, b1⟩; obtain ⟨a0, a1, _⟩ := ((((Bx.new _ _ _ _).alloc _).alloc _).alloc _).below b1; obtain ⟨d0, d1, _⟩ := (((Bx.new1 _ _ _ _ _).alloc _).alloc _).below b1; have R1 := ((Bx.new2 _ _ _ _ _ _).alloc _).below b1)
    | (go_at_call 33; refine (hs _).mono ?_; rintro e w2 ⟨rfl, b2⟩; obtain ⟨c0, c1, f0, f1, _⟩ := R1.below b2))
  have b3 := old1 (old3 b1)
  exact bodyPost_ret (v := .tuple #[spV lo hi, .int .i64 0]) (by simp [results, Tryd.results13, go_sem, c0, c1]) rfl ⟨rfl, set2 (b3.trans (b2.mono b3.size)) (by omega) _ _⟩
/-- The lesser, the greater of two floats. -/
def lsF (a b : Nat) : Nat := if ordF b a < 0 then b else a
def grF (a b : Nat) : Nat := if 0 < ordF b a then b else a
theorem lsF_lt {a b : Nat} (ha : a < 18446744073709551616) (hb : b < 18446744073709551616) : lsF a b < 18446744073709551616 := by unfold lsF; split <;> assumption
theorem grF_lt {a b : Nat} (ha : a < 18446744073709551616) (hb : b < 18446744073709551616) : grF a b < 18446744073709551616 := by unfold grF; split <;> assumption
set_option maxHeartbeats 2000000 in
theorem sleast_walk (x y0 y1 y2 u1 u2 u3 B : Nat) (E1 : Hid (u1 = lsF x y0)) (E2 : Hid (u2 = lsF u1 y1)) (E3 : Hid (u3 = lsF u2 y2)) (hx : x < 18446744073709551616) (l0 : u1 < 18446744073709551616) (l1 : u2 < 18446744073709551616) (k0 : y0 < 18446744073709551616) (k1 : y1 < 18446744073709551616) (k2 : y2 < 18446744073709551616) (w : World) (h0 : w.cell? ⟨B, 0, none⟩ = some (.float .f64 y0)) (h1 : w.cell? ⟨B, 1, none⟩ = some (.float .f64 y1)) (h2 : w.cell? ⟨B, 2, none⟩ = some (.float .f64 y2)) :
    Calls Tryd.prog 86 #[.float .f64 x, .slice (some ⟨B, 0, none⟩) 3 3] w fun e w' => e = .returned (.float .f64 u3) ∧ w' = w := by
  go_enter Tryd.func86, Tryd.ntmps86
  go_wp2
  go_loopg [0, 6, 9] 3 (fun g u _ v wr => ∃ k : Nat, k ≤ 3 ∧ g = 3 - k ∧ v = .int .i64 k ∧ wr = w ∧ u = .float .f64 (if k = 0 then x else if k = 1 then u1 else if k = 2 then u2 else u3))
  case atStart => exact ⟨0, by omega, rfl, rfl, rfl, rfl⟩
  case round =>
    obtain ⟨k, hk, hg, rfl, rfl, rfl⟩ := hrel
    have HG : Hid (gk = 3 - k) := hg
    clear hg
    rcases (show k = 0 ∨ k = 1 ∨ k = 2 ∨ k = 3 by omega) with rfl | rfl | rfl | rfl
    · skip
      have co := order_any y0 x k0 hx
      by_cases q : ordF y0 x < 0
      · have hv : u1 = y0 := by rw [E1.out]; unfold lsF; rw [if_pos q]
        go_wp2_with (go_at_call 100; refine (co _).mono ?_; rintro e w' ⟨rfl, rfl⟩)
        go_roundg 2
        case measure => rw [HG.out]; omega
        case rel => exact ⟨1, by omega, rfl, rfl, rfl, by rw [← hv]; rfl⟩
      · have hv : u1 = x := by rw [E1.out]; unfold lsF; rw [if_neg q]
        go_wp2_with (go_at_call 100; refine (co _).mono ?_; rintro e w' ⟨rfl, rfl⟩)
        go_roundg 2
        case measure => rw [HG.out]; omega
        case rel => exact ⟨1, by omega, rfl, rfl, rfl, by rw [← hv]; rfl⟩
    · skip
      have co := order_any y1 u1 k1 l0
      by_cases q : ordF y1 u1 < 0
      · have hv : u2 = y1 := by rw [E2.out]; unfold lsF; rw [if_pos q]
        go_wp2_with (go_at_call 100; refine (co _).mono ?_; rintro e w' ⟨rfl, rfl⟩)
        go_roundg 1
        case measure => rw [HG.out]; omega
        case rel => exact ⟨2, by omega, rfl, rfl, rfl, by rw [← hv]; rfl⟩
      · have hv : u2 = u1 := by rw [E2.out]; unfold lsF; rw [if_neg q]
        go_wp2_with (go_at_call 100; refine (co _).mono ?_; rintro e w' ⟨rfl, rfl⟩)
        go_roundg 1
        case measure => rw [HG.out]; omega
        case rel => exact ⟨2, by omega, rfl, rfl, rfl, by rw [← hv]; rfl⟩
    · skip
      have co := order_any y2 u2 k2 l1
      by_cases q : ordF y2 u2 < 0
      · have hv : u3 = y2 := by rw [E3.out]; unfold lsF; rw [if_pos q]
        go_wp2_with (go_at_call 100; refine (co _).mono ?_; rintro e w' ⟨rfl, rfl⟩)
        go_roundg 0
        case measure => rw [HG.out]; omega
        case rel => exact ⟨3, by omega, rfl, rfl, rfl, by rw [← hv]; rfl⟩
      · have hv : u3 = u2 := by rw [E3.out]; unfold lsF; rw [if_neg q]
        go_wp2_with (go_at_call 100; refine (co _).mono ?_; rintro e w' ⟨rfl, rfl⟩)
        go_roundg 0
        case measure => rw [HG.out]; omega
        case rel => exact ⟨3, by omega, rfl, rfl, rfl, by rw [← hv]; rfl⟩
    · go_wp2
      go_ret
      exact ⟨rfl, rfl⟩
theorem sleast_four (x y0 y1 y2 B : Nat) (hx : x < 18446744073709551616) (k0 : y0 < 18446744073709551616) (k1 : y1 < 18446744073709551616) (k2 : y2 < 18446744073709551616) (w : World) (h0 : w.cell? ⟨B, 0, none⟩ = some (.float .f64 y0)) (h1 : w.cell? ⟨B, 1, none⟩ = some (.float .f64 y1)) (h2 : w.cell? ⟨B, 2, none⟩ = some (.float .f64 y2)) :
    Calls Tryd.prog 86 #[.float .f64 x, .slice (some ⟨B, 0, none⟩) 3 3] w fun e w' => e = .returned (.float .f64 (lsF (lsF (lsF x y0) y1) y2)) ∧ w' = w :=
  sleast_walk x y0 y1 y2 _ _ _ B rfl rfl rfl hx (lsF_lt hx k0) (lsF_lt (lsF_lt hx k0) k1) k0 k1 k2 w h0 h1 h2
set_option maxHeartbeats 2000000 in
theorem sgreatest_walk (x y0 y1 y2 u1 u2 u3 B : Nat) (E1 : Hid (u1 = grF x y0)) (E2 : Hid (u2 = grF u1 y1)) (E3 : Hid (u3 = grF u2 y2)) (hx : x < 18446744073709551616) (l0 : u1 < 18446744073709551616) (l1 : u2 < 18446744073709551616) (k0 : y0 < 18446744073709551616) (k1 : y1 < 18446744073709551616) (k2 : y2 < 18446744073709551616) (w : World) (h0 : w.cell? ⟨B, 0, none⟩ = some (.float .f64 y0)) (h1 : w.cell? ⟨B, 1, none⟩ = some (.float .f64 y1)) (h2 : w.cell? ⟨B, 2, none⟩ = some (.float .f64 y2)) :
    Calls Tryd.prog 71 #[.float .f64 x, .slice (some ⟨B, 0, none⟩) 3 3] w fun e w' => e = .returned (.float .f64 u3) ∧ w' = w := by
  go_enter Tryd.func71, Tryd.ntmps71
  go_wp2
  go_loopg [0, 6, 9] 3 (fun g u _ v wr => ∃ k : Nat, k ≤ 3 ∧ g = 3 - k ∧ v = .int .i64 k ∧ wr = w ∧ u = .float .f64 (if k = 0 then x else if k = 1 then u1 else if k = 2 then u2 else u3))
  case atStart => exact ⟨0, by omega, rfl, rfl, rfl, rfl⟩
  case round =>
    obtain ⟨k, hk, hg, rfl, rfl, rfl⟩ := hrel
    have HG : Hid (gk = 3 - k) := hg
    clear hg
    rcases (show k = 0 ∨ k = 1 ∨ k = 2 ∨ k = 3 by omega) with rfl | rfl | rfl | rfl
    · skip
      have co := order_any y0 x k0 hx
      by_cases q : 0 < ordF y0 x
      · have hv : u1 = y0 := by rw [E1.out]; unfold grF; rw [if_pos q]
        go_wp2_with (go_at_call 100; refine (co _).mono ?_; rintro e w' ⟨rfl, rfl⟩)
        go_roundg 2
        case measure => rw [HG.out]; omega
        case rel => exact ⟨1, by omega, rfl, rfl, rfl, by rw [← hv]; rfl⟩
      · have hv : u1 = x := by rw [E1.out]; unfold grF; rw [if_neg q]
        go_wp2_with (go_at_call 100; refine (co _).mono ?_; rintro e w' ⟨rfl, rfl⟩)
        go_roundg 2
        case measure => rw [HG.out]; omega
        case rel => exact ⟨1, by omega, rfl, rfl, rfl, by rw [← hv]; rfl⟩
    · skip
      have co := order_any y1 u1 k1 l0
      by_cases q : 0 < ordF y1 u1
      · have hv : u2 = y1 := by rw [E2.out]; unfold grF; rw [if_pos q]
        go_wp2_with (go_at_call 100; refine (co _).mono ?_; rintro e w' ⟨rfl, rfl⟩)
        go_roundg 1
        case measure => rw [HG.out]; omega
        case rel => exact ⟨2, by omega, rfl, rfl, rfl, by rw [← hv]; rfl⟩
      · have hv : u2 = u1 := by rw [E2.out]; unfold grF; rw [if_neg q]
        go_wp2_with (go_at_call 100; refine (co _).mono ?_; rintro e w' ⟨rfl, rfl⟩)
        go_roundg 1
        case measure => rw [HG.out]; omega
        case rel => exact ⟨2, by omega, rfl, rfl, rfl, by rw [← hv]; rfl⟩
    · skip
      have co := order_any y2 u2 k2 l1
      by_cases q : 0 < ordF y2 u2
      · have hv : u3 = y2 := by rw [E3.out]; unfold grF; rw [if_pos q]
        go_wp2_with (go_at_call 100; refine (co _).mono ?_; rintro e w' ⟨rfl, rfl⟩)
        go_roundg 0
        case measure => rw [HG.out]; omega
        case rel => exact ⟨3, by omega, rfl, rfl, rfl, by rw [← hv]; rfl⟩
      · have hv : u3 = u2 := by rw [E3.out]; unfold grF; rw [if_neg q]
        go_wp2_with (go_at_call 100; refine (co _).mono ?_; rintro e w' ⟨rfl, rfl⟩)
        go_roundg 0
        case measure => rw [HG.out]; omega
        case rel => exact ⟨3, by omega, rfl, rfl, rfl, by rw [← hv]; rfl⟩
    · go_wp2
      go_ret
      exact ⟨rfl, rfl⟩
theorem sgreatest_four (x y0 y1 y2 B : Nat) (hx : x < 18446744073709551616) (k0 : y0 < 18446744073709551616) (k1 : y1 < 18446744073709551616) (k2 : y2 < 18446744073709551616) (w : World) (h0 : w.cell? ⟨B, 0, none⟩ = some (.float .f64 y0)) (h1 : w.cell? ⟨B, 1, none⟩ = some (.float .f64 y1)) (h2 : w.cell? ⟨B, 2, none⟩ = some (.float .f64 y2)) :
    Calls Tryd.prog 71 #[.float .f64 x, .slice (some ⟨B, 0, none⟩) 3 3] w fun e w' => e = .returned (.float .f64 (grF (grF (grF x y0) y1) y2)) ∧ w' = w :=
  sgreatest_walk x y0 y1 y2 _ _ _ B rfl rfl rfl hx (grF_lt hx k0) (grF_lt (grF_lt hx k0) k1) k0 k1 k2 w h0 h1 h2
end Go.Proofs.YtmgdkadkokpapaaDoor
