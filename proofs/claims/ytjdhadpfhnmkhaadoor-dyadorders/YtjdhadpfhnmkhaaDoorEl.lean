/- What Finite, Sign, Fits answer. -/
import Derived.Test.YtjdhadpfhnmkhaaDoorZo
import Derived.Test.YtjdhadpfhnmkhaaDoorFz
namespace Go.Proofs.YtjdhadpfhnmkhaaDoor
open Go.RowKit

set_option maxHeartbeats 400000 in
theorem fin_yes (a : Nat) (ha : a < 18446744073709551616) (hf : finB a = true) (w : World) :
    Calls Tryd.prog 17 #[.float .f64 a] w fun e w' => e = .returned (.bool true) ∧ w' = w := by
  have hm := fun w => run_float_arith (P := Tryd.prog) w .sub 37 .f64 _ _ _ (sub_self ha hf)
  have ho : (FloatKind.f64.format.order 0 0 == some .eq) = true := by kernel_rfl
  go_enter Tryd.func17, Tryd.ntmps17
  go_wp2
  go_ret
  exact ⟨end_bool ho, rfl⟩
set_option maxHeartbeats 400000 in
theorem fin_no (a : Nat) (ha : a < 18446744073709551616) (hf : finB a = false) (w : World) :
    Calls Tryd.prog 17 #[.float .f64 a] w fun e w' => e = .returned (.bool false) ∧ w' = w.drew := by
  have hm := run_nan (P := Tryd.prog) .sub (Or.inl rfl) 37 a a (sub_inf ha hf)
  obtain ⟨h1, h2⟩ := nanW_nan a a w
  have ho : (FloatKind.f64.format.order (nanW a a w) 0 == some .eq) = false := by rw [ord_nan h2 (by omega) (Or.inl h1)]; rfl
  go_enter Tryd.func17, Tryd.ntmps17
  go_wp2
  go_ret
  exact ⟨rfl, rfl⟩

set_option maxHeartbeats 400000 in
theorem Sign_ok (neg : Bool) (xs : List Nat) (ex : Int) (ao : Option Addr) (cap : Nat) (w : World) (hr : LRow w ao xs) (hL : Lm xs) (hR : rightB ⟨neg, xs, ex⟩ = true) :
    Calls Tryd.prog 15 #[.agg #[.bool neg, .slice ao xs.length cap, .int .i64 ex]] w fun e w' => e = .returned (.tuple #[.int .i64 (sgD ⟨neg, xs, ex⟩), .int .i64 0]) ∧ Below w.heap.size w w' := by
  go_enter Tryd.func15, Tryd.ntmps15
  go_wp2_with (first | (go_at_call 21; refine (right_any ⟨neg, xs, ex⟩ ao cap _ (hr.alloc _) hL).mono ?_; rintro e w1 ⟨rfl, hb1⟩; obtain ⟨⟨c0, c1, c2⟩, ho1⟩ := one_box hb1) | (go_at_call 30; refine (sign_any ⟨neg, xs, ex⟩ ao cap _).mono ?_; rintro e w2 ⟨rfl, hb2⟩))
  go_ret2
  exact ⟨rfl, ho1.trans (hb2.mono ho1.size)⟩
set_option maxHeartbeats 400000 in
theorem Sign_arg (neg : Bool) (xs : List Nat) (ex : Int) (ao : Option Addr) (cap : Nat) (w : World) (hr : LRow w ao xs) (hL : Lm xs) (hR : rightB ⟨neg, xs, ex⟩ = false) :
    Calls Tryd.prog 15 #[.agg #[.bool neg, .slice ao xs.length cap, .int .i64 ex]] w fun e w' => e = .returned (.tuple #[.int .i64 0, .int .i64 2]) ∧ Below w.heap.size w w' := by
  go_enter Tryd.func15, Tryd.ntmps15
  go_wp2_with (first | (go_at_call 21; refine (right_any ⟨neg, xs, ex⟩ ao cap _ (hr.alloc _) hL).mono ?_; rintro e w1 ⟨rfl, hb1⟩; obtain ⟨⟨c0, c1, c2⟩, ho1⟩ := one_box hb1))
  go_ret2
  exact ⟨rfl, ho1⟩

/-- Is a right dyad a finite float? -/
def fitB (d : Dy) : Bool := rightB d && decide (d.mag.length ≤ 1) && okP (lmb d.mag 0) d.exp
set_option maxHeartbeats 1000000 in
theorem Fits_any (neg : Bool) (xs : List Nat) (ex : Int) (ao : Option Addr) (cap : Nat) (w : World) (hr : LRow w ao xs) (hL : Lm xs) :
    Calls Tryd.prog 20 #[.agg #[.bool neg, .slice ao xs.length cap, .int .i64 ex]] w fun e w' => e = .returned (.bool (fitB ⟨neg, xs, ex⟩)) ∧ Below w.heap.size w w' := by
  cases hR : rightB ⟨neg, xs, ex⟩
  · have HE : Hid (fitB ⟨neg, xs, ex⟩ = false) := (show _ = _ by unfold fitB; rw [hR]; rfl)
    go_enter Tryd.func20, Tryd.ntmps20
    go_wp2_with (first | (go_at_call 21; refine (right_any ⟨neg, xs, ex⟩ ao cap _ (hr.alloc _) hL).mono ?_; rintro e w1 ⟨rfl, hb1⟩; obtain ⟨⟨c0, c1, c2⟩, ho1⟩ := one_box hb1))
    go_ret
    exact ⟨retB HE.out.symm, ho1⟩
  · by_cases h1 : (1 : Int) < (xs.length : Int)
    · have HE : Hid (fitB ⟨neg, xs, ex⟩ = false) := (show _ = _ by unfold fitB; simp; omega)
      go_enter Tryd.func20, Tryd.ntmps20
      go_wp2_with (first | (go_at_call 21; refine (right_any ⟨neg, xs, ex⟩ ao cap _ (hr.alloc _) hL).mono ?_; rintro e w1 ⟨rfl, hb1⟩; obtain ⟨⟨c0, c1, c2⟩, ho1⟩ := one_box hb1))
      go_ret
      exact ⟨retB HE.out.symm, ho1⟩
    · have HE : Hid (fitB ⟨neg, xs, ex⟩ = okP (lmb xs 0) ex) := (show _ = _ by unfold fitB; rw [hR, decide_eq_true (by simp only; omega)]; rfl)
      have hlm := fun w' hr' => limb_any xs ao cap 0 w' hr'
      have hll := lmb_lt hL 0
      generalize lmb xs 0 = f at *
      go_enter Tryd.func20, Tryd.ntmps20
      go_wp2_with (first | (go_at_call 21; refine (right_any ⟨neg, xs, ex⟩ ao cap _ (hr.alloc _) hL).mono ?_; rintro e w1 ⟨rfl, hb1⟩; obtain ⟨⟨c0, c1, c2⟩, ho1⟩ := one_box hb1))
      go_region_held3 (fun w' => w'.cell? ⟨w.heap.size, 0, none⟩ = some (.bool neg) ∧ w'.cell? ⟨w.heap.size, 1, none⟩ = some (.slice ao xs.length cap) ∧ w'.cell? ⟨w.heap.size, 2, none⟩ = some (.int .i64 ex)) (go_keep)
        (first | (go_at_call 38; refine (hlm _ (hr.below ho1).drew).mono ?_; rintro e w' ⟨rfl, hww⟩; subst hww) | (go_at_call 37; refine (join_any neg f ex hll _).mono ?_; rintro e w2 ⟨rfl, hb2⟩; replace hb2 := undrew hb2; obtain ⟨c0, c1, c2⟩ := three_on (p := w.heap.size) hb2 ⟨c0, c1, c2⟩; have ho2 : Below w.heap.size w w2 := ho1.trans (hb2.mono ho1.size)))
      all_goals go_wp2
      all_goals go_ret
      all_goals exact ⟨retB HE.out.symm, ho2⟩
end Go.Proofs.YtjdhadpfhnmkhaaDoor
