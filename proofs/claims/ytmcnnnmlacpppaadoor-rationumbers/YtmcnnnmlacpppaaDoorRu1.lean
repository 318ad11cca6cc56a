/- RatioNumbers: what is fixed, and 'is' of any errors. -/
import Derived.Test.YtmcnnnmlacpppaaDoorRu0
import Derived.Test.YtmcnnnmlacpppaaDoorRtm
import Derived.Test.YtmcnnnmlacpppaaDoorWj
namespace Go.Proofs.YtmcnnnmlacpppaaDoor
open Go.RowKit

set_option maxHeartbeats 400000 in
theorem ru_cpy (w : World) : Calls Tryd.prog 9 #[.float .f64 0, .float .f64 13830554455654793216] w fun e w' => e = .returned (.float .f64 9223372036854775808) ∧ w' = w := by
  have ff := run_ffrom
  have f1 := run_fbits 0
  have f2 := run_fbits 13830554455654793216
  go_enter Tryd.func9, Tryd.ntmps9
  go_wp2
  go_ret
  exact ⟨end_flt (by kernel_rfl), rfl⟩
set_option maxHeartbeats 400000 in
theorem ru_isnan (w : World) : Calls Tryd.prog 8 #[] w fun e w' => e = .returned (.float .f64 9221120237041090561) ∧ w' = w := by
  have ff := run_ffrom
  go_enter Tryd.func8, Tryd.ntmps8
  go_wp2
  go_ret
  exact ⟨rfl, rfl⟩
theorem nl_v0 : nl 0 = 0 := rfl
theorem nl_v1 : nl 1 = 1 := rfl
theorem lo_v0 : lo 0 = [] := by kernel_rfl
theorem lo_v1 : lo 1 = [1] := by kernel_rfl
/-- The greatest power of two of 256 limbs. -/
def lsN : Nat := 2 ^ 16383
theorem ls_nl : nl lsN = 256 := by kernel_rfl
theorem ls_top : (lo lsN).getD 255 0 = 9223372036854775808 := by kernel_rfl
theorem ru_nan : ofR 9221120237041090561 = (none, 5) := by kernel_rfl
theorem ru_nought : ofR 9223372036854775808 = (some (false, 0, 1), 3) := by kernel_rfl
theorem ru_big : odA ⟨false, [1], 16384⟩ = (none, 3) := by kernel_rfl
theorem ru_less : odA ⟨false, [1], 16383⟩ = (some (false, lsN, 1), 3) := by kernel_rfl
theorem bl_pow (k : Nat) : bl (2 ^ k) = 1 + k := by
  have h := bl_mul_pow (v := 1) (k := k) (by decide)
  rw [Nat.one_mul] at h
  exact h
theorem far_nl (k : Nat) (hk : 16384 ≤ k) : ¬ nl (2 ^ k) ≤ 256 := by
  unfold nl
  rw [bl_pow]
  omega
theorem od_far (k : Nat) (hk : 16384 ≤ k) (e : Int) (he : (-e).toNat = k) (hr : rightB ⟨false, [1], e⟩ = true) : odA ⟨false, [1], e⟩ = (none, 3) := by
  unfold odA
  simp only [hr, if_true]
  rw [he, if_neg (fun h => far_nl k hk h.2)]
theorem ru_far : odA ⟨false, [1], -65536⟩ = (none, 3) := od_far 65536 (by omega) (-65536) rfl (by kernel_rfl)
theorem rqb_one (N : Nat) (h : nl N = 256) : RqB false N 1 := ⟨by decide, Nat.gcd_one_right N, by omega, by decide, fun _ => rfl⟩
theorem rq_less : RqB false lsN 1 := rqb_one lsN ls_nl
theorem rq_one : RqB false 1 1 := ⟨by decide, by decide, by decide, by decide, fun _ => rfl⟩
theorem rq_zero : RqB false 0 1 := ⟨by decide, by decide, by decide, by decide, fun _ => rfl⟩
def smN : Nat := 2 ^ 1075
theorem sm_nl : nl smN = 17 := by kernel_rfl
theorem sm_ne : smN ≠ 0 := fun h => by have := sm_nl; rw [h] at this; exact absurd this (by decide)
theorem rqb_two (D : Nat) (h0 : D ≠ 0) (h : nl D = 17) : RqB true 1 D := ⟨h0, Nat.gcd_one_left D, by decide, by omega, fun h => absurd h (by decide)⟩
theorem rq_small : RqB true 1 smN := rqb_two smN sm_ne sm_nl
theorem ru_twice : nmA (smQ false false (lsN * 1) (lsN * 1)).1 (smQ false false (lsN * 1) (lsN * 1)).2 (1 * 1) = (none, 3) := by kernel_rfl
theorem ru_n0 : nmA false (vl [1]) (vl [0, 0]) = (none, 7) := by kernel_rfl
theorem ru_n64 : nmA true (vl [6, 0]) (vl [4]) = (some (true, 3, 2), 3) := by kernel_rfl
theorem ru_rs : rnR true 1 smN 0 = 9223372036854775808 := by kernel_rfl
theorem ru_rl : rnR false lsN 1 1 = 9218868437227405311 := by kernel_rfl
theorem ru_bad : rtB true [] [1] = false := by kernel_rfl
theorem ru_none : rtB false [] [] = false := by kernel_rfl
theorem ru_24 : rtB false (lo 2) (lo 4) = false := by kernel_rfl
theorem ru_01 : rtB false [] [1] = true := by kernel_rfl
theorem sm_lo : lo smN = List.replicate 16 0 ++ [2251799813685248] := by kernel_rfl
set_option maxHeartbeats 400000 in
theorem isE_any (n1 n2 : Bool) (N1 D1 N2 D2 : Nat) (er : Int) (ao1 bo1 ao2 bo2 : Option Addr) (ac1 bc1 ac2 bc2 : Nat) (w : World) (a1 : LRow w ao1 (lo N1)) (b1 : LRow w bo1 (lo D1)) (a2 : LRow w ao2 (lo N2)) (b2 : LRow w bo2 (lo D2)) (k1 : nl N1 ≤ 256) (k2 : nl D1 ≤ 256) :
    Calls Tryd.prog 11 #[.agg #[.bool n1, .slice ao1 (nl N1) ac1, .slice bo1 (nl D1) bc1], .int .i64 er, .agg #[.bool n2, .slice ao2 (nl N2) ac2, .slice bo2 (nl D2) bc2], .int .i64 er] w fun e w' => e = .returned (.bool (smB n1 n2 N1 D1 N2 D2)) ∧ Below w.heap.size w w' := by
  have AB := (B3q.new w (.bool n1) (.slice ao1 (nl N1) ac1) (.slice bo1 (nl D1) bc1) 25).alloc (.cells #[.bool n2, .slice ao2 (nl N2) ac2, .slice bo2 (nl D2) bc2] 25)
  have BB := B3q.new (w.alloc (.cells #[.bool n1, .slice ao1 (nl N1) ac1, .slice bo1 (nl D1) bc1] 25)) (.bool n2) (.slice ao2 (nl N2) ac2) (.slice bo2 (nl D2) bc2) 25
  have hs1 : (w.alloc (.cells #[.bool n1, .slice ao1 (nl N1) ac1, .slice bo1 (nl D1) bc1] 25)).heap.size = w.heap.size + 1 := by simp
  rw [hs1] at BB
  have hb0 : Below w.heap.size w ((w.alloc (.cells #[.bool n1, .slice ao1 (nl N1) ac1, .slice bo1 (nl D1) bc1] 25)).alloc (.cells #[.bool n2, .slice ao2 (nl N2) ac2, .slice bo2 (nl D2) bc2] 25)) := ((Below.refl _ _).alloc (Nat.le_refl _) _).alloc (by rw [hs1]; omega) _
  have c1 := sameR_any n1 n2 N1 D1 N2 D2 ao1 bo1 ao2 bo2 ac1 bc1 ac2 bc2 _ (a1.below hb0) (b1.below hb0) (a2.below hb0) (b2.below hb0) k1 k2
  generalize smB n1 n2 N1 D1 N2 D2 = sb at *
  go_enter Tryd.func11, Tryd.ntmps11
  go_upto_region 1 with fail
  generalize (w.alloc (.cells #[.bool n1, .slice ao1 (nl N1) ac1, .slice bo1 (nl D1) bc1] 25)).alloc (.cells #[.bool n2, .slice ao2 (nl N2) ac2, .slice bo2 (nl D2) bc2] 25) = W0 at *
  obtain ⟨x0, x1, x2, _, _, _, _, _⟩ := id AB
  obtain ⟨y0, y1, y2, _, _, _, _, _⟩ := id BB
  go_wp2_with (go_at_call 19; refine c1.mono ?_; rintro e w2 ⟨rfl, b2⟩)
  go_ret
  exact ⟨rfl, hb0.trans (b2.mono hb0.size)⟩
/-- Two answers that are none. -/
theorem isN_any (er : Int) (w : World) : Calls Tryd.prog 11 #[.agg #[.bool false, .slice none 0 0, .slice none 0 0], .int .i64 er, .agg #[.bool false, .slice none 0 0, .slice none 0 0], .int .i64 er] w fun e w' => e = .returned (.bool true) ∧ Below w.heap.size w w' := by
  have h := isE_any false false 0 0 0 0 er none none none none 0 0 0 0 w (by rw [lo_v0]; exact Or.inl rfl) (by rw [lo_v0]; exact Or.inl rfl) (by rw [lo_v0]; exact Or.inl rfl) (by rw [lo_v0]; exact Or.inl rfl) (by decide) (by decide)
  exact h
end Go.Proofs.YtmcnnnmlacpppaaDoor
