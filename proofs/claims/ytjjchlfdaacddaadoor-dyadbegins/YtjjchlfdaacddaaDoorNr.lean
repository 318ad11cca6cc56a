/- DyadBegins, whatever float and whole number it is given: the walk (the library's table lying as its initialiser lays it). -/
import Derived.Test.YtjjchlfdaacddaaDoorNn
import Derived.Test.YtjjchlfdaacddaaDoorEm
import Derived.Test.YtjjchlfdaacddaaDoorZl
namespace Go.Proofs.YtjjchlfdaacddaaDoor
open Go.RowKit

theorem ofD_length (a : Nat) : (ofD a).1.mag.length ≤ 1125899906842624 := by
  unfold ofD
  split
  · simp [dy0]
  · split <;> simp [dy0]
theorem nrm_length (m e : Int) : (nrm m e).1.mag.length ≤ 256 := by
  by_cases h : (nrm m e).2 = 0
  · exact (right_exp (nrm_ok h).1).2.2
  · rw [nrm_exp h]; simp [dy0]
set_option maxHeartbeats 4000000 in
set_option maxRecDepth 100000 in
theorem begins_law (a : Nat) (n : Int) (ha : a < 18446744073709551616) (h1 : -9223372036854775808 ≤ n) (h2 : n ≤ 9223372036854775807) (w : World) (hT : TabW w) :
    Calls Tryd.prog 4 #[.float .f64 a, .int .i64 n] w fun e w' => e = .returned (.bool true) ∧ Below w.heap.size w w' := by
  have hO := fun w' hT' => Of_any a ha w' hT'
  have hQ := fun w' => dof_any a ha w'
  have hI := fun w' hT' => Int_any n h1 h2 w' hT'
  have hJ := fun w' => dint_any n h1 h2 w'
  have hol := ofD_length a
  have hil : (intD n).mag.length ≤ 1125899906842624 := by have h := nrm_length (sv ⟨decide (n < 0), [n.natAbs], 0⟩) 0; unfold intD normD; simp only at h ⊢; omega
  obtain ⟨⟨⟨rn, rm, re⟩, rk⟩, hrr⟩ : ∃ r, ofD a = r := ⟨_, rfl⟩
  obtain ⟨⟨jn, jm, je⟩, hjj⟩ : ∃ r, intD n = r := ⟨_, rfl⟩
  rw [hrr] at hO hQ hol
  rw [hjj] at hI hJ hil
  simp only at hol hil
  have hk : (rk == rk) = true := by simp
  clear hrr hjj
  have hS := fun o1 o2 c1 c2 w' r1 r2 => sameDyad_any ⟨rn, rm, re⟩ ⟨rn, rm, re⟩ o1 o2 c1 c2 w' r1 r2 hol
  have hS2 := fun o1 o2 c1 c2 w' r1 r2 => sameDyad_any ⟨jn, jm, je⟩ ⟨jn, jm, je⟩ o1 o2 c1 c2 w' r1 r2 hil
  rw [eqB_self] at hS hS2
  simp only at hS hS2
  go_enter Tryd.func4, Tryd.ntmps4
  go_upto_region 5 with (first
    | (go_at_call 8; refine (awake_any _ hT).mono ?_; rintro e w1 ⟨rfl, b1⟩)
    | (go_at_call 19; refine (hO _ (tabW_below hT b1)).mono ?_; rintro e w2 ⟨o1, c1, rfl, r1, _, b2⟩; have B2 := b1.trans (b2.mono b1.size))
    | (go_at_call 20; refine (hQ _).mono ?_; rintro e w3 ⟨o2, c2, rfl, r2, _, b3⟩; obtain ⟨⟨k0, k1, k2⟩, k3⟩ := one_box b3; have q0 := cell_alloc k0; have q1 := cell_alloc k1; have q2 := cell_alloc k2; have B3 := B2.trans (k3.mono B2.size)))
  have B4 := B3.alloc B3.size (.cells #[.bool rn, .slice o2 rm.length c2, .int .i64 re] 24)
  have s1 := (((r1.alloc (.cells #[.bool rn, .slice o1 rm.length c1, .int .i64 re] 24)).below b3).alloc (.cells #[.bool rn, .slice o2 rm.length c2, .int .i64 re] 24))
  have s2 := r2.1.alloc (.cells #[.bool rn, .slice o2 rm.length c2, .int .i64 re] 24)
  clear hO hQ b1 b2 b3 B2 k3
  go_wp2_with (first
    | (go_at_call_of 18 (Value.agg #[.bool rn, .slice o1 rm.length c1, .int .i64 re]); refine (hS _ _ _ _ _ s1 s2).mono ?_; rintro e w4 ⟨rfl, b4⟩; have B5 := B4.trans (b4.mono B4.size))
    | (go_at_call 21; refine (hI _ (tabW_below hT B5)).mono ?_; rintro e w5 ⟨o3, c3, rfl, r3, _, b5⟩; have B6 := B5.trans (b5.mono B5.size))
    | (go_at_call 22; refine (hJ _).mono ?_; rintro e w6 ⟨o4, c4, rfl, r4, _, b6⟩; have B7 := B6.trans (b6.mono B6.size))
    | (go_at_call_of 18 (Value.agg #[.bool jn, .slice o4 jm.length c4, .int .i64 je]); refine (hS2 _ _ _ _ _ (r3.below b6) r4.1).mono ?_; rintro e w7 ⟨rfl, b7⟩))
  go_ret
  exact ⟨rfl, B7.trans (b7.mono B7.size)⟩
end Go.Proofs.YtjjchlfdaacddaaDoor
