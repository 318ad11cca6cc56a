/- Ratios: Of any float; Div and Sign of what is not right. -/
import Derived.Test.YtnclddfljghebaaGreatDoorRtz
import Derived.Test.YtnclddfljghebaaGreatDoorQ5
import Derived.Test.YtnclddfljghebaaGreatDoorZo
namespace Go.Proofs.YtnclddfljghebaaGreatDoor
open Go.RowKit

/-- What Of tells. -/
def ofR (a : Nat) : Option (Bool × Nat × Nat) × Int := if (ofD a).2 = 0 then odA (ofD a).1 else (none, (ofD a).2)
theorem ofD_err (a : Nat) : (ofD a).2 = 0 ∨ (ofD a).2 = 5 := by
  unfold ofD
  (repeat' split) <;> simp
theorem ofD_lm (a : Nat) : Lm (ofD a).1.mag ∧ -9223372036854775807 ≤ (ofD a).1.exp ∧ (ofD a).1.exp ≤ 9223372036854775807 := by
  unfold ofD
  split
  · exact ⟨fun x hx => (by simp [dy0] at hx), by decide, by decide⟩
  · rename_i hf
    split
    · exact ⟨fun x hx => (by simp [dy0] at hx), by decide, by decide⟩
    · rename_i hz
      have h0 : rung a ≠ 0 := fun e => hz (by unfold spF; rw [if_pos e])
      obtain ⟨b1, b2, b3, b4, b5, b6⟩ := sp_bd (by simpa using hf) h0
      refine ⟨fun y hy => by simp at hy; omega, ?_, ?_⟩
      · simp only; omega
      · simp only; omega
set_option maxRecDepth 100000 in
set_option maxHeartbeats 1000000 in
theorem rof_any (a : Nat) (ha : a < 18446744073709551616) (w : World) (hT : TabW w) :
    Calls Tryz.prog 14 #[.float .f64 a] w (GaveR w (ofR a).1 (ofR a).2) := by
  have OB := B3q.new w (.bool false) (.slice none 0 0) (.slice none 0 0) 24
  have hb0 : Below w.heap.size w (w.alloc (.cells #[.bool false, .slice none 0 0, .slice none 0 0] 24)) := (Below.refl _ _).alloc (Nat.le_refl _) _
  have c1 := Of_any a ha _ (tabW_below hT hb0)
  have hl := ofD_lm a
  have he := ofD_err a
  have hof : ofR a = if (ofD a).2 = 0 then odA (ofD a).1 else (none, (ofD a).2) := rfl
  rw [hof]
  clear hof
  obtain ⟨⟨⟨neg, xs, ex⟩, er⟩, hd⟩ : ∃ q, ofD a = q := ⟨_, rfl⟩
  rw [hd] at c1 hl he ⊢
  simp only at c1 hl he ⊢
  unfold Gave at c1
  simp only at c1
  go_enter Tryz.func14, Tryz.ntmps14
  go_upto_region 1 with fail
  generalize w.alloc (.cells #[.bool false, .slice none 0 0, .slice none 0 0] 24) = W0 at *
  go_upto_region 2 with (go_at_call 51; refine c1.mono ?_; rintro e w1 ⟨ao, cap, rfl, hr, _, b1⟩)
  have OB1 := OB.below b1
  have T1 := tabW_below hT (hb0.trans (b1.mono hb0.size))
  have hb1 := hb0.trans (b1.mono hb0.size)
  have DB := B3q.new w1 (.bool neg) (.slice ao xs.length cap) (.int .i64 ex) 27
  have OB2 := OB1.alloc (.cells #[.bool neg, .slice ao xs.length cap, .int .i64 ex] 27)
  have hb2 := hb1.alloc hb1.size (.cells #[.bool neg, .slice ao xs.length cap, .int .i64 ex] 27)
  have hr2 := hr.below ((Below.refl w1.heap.size w1).alloc (Nat.le_refl _) (.cells #[.bool neg, .slice ao xs.length cap, .int .i64 ex] 27))
  generalize w1.alloc (.cells #[.bool neg, .slice ao xs.length cap, .int .i64 ex] 27) = W2 at *
  obtain ⟨o0, o1, o2, q0, q1, q2, _, olt⟩ := id OB2
  obtain ⟨d0, d1, d2, _, _, _, _, dlt⟩ := id DB
  have u1 : ¬ w.heap.size = w1.heap.size := by have := OB1.lt; omega
  have u2 : ¬ w1.heap.size = w.heap.size := by omega
  clear OB OB1 hb1 hb0 T1 c1 b1 hr hT
  rcases he with rfl | rfl
  · simp only [if_true]
    have cO := rofd_any neg xs ex ao cap W2 hr2 hl.1 ⟨hl.2.1, hl.2.2⟩
    generalize odA ⟨neg, xs, ex⟩ = qq at *
    obtain ⟨o, er⟩ := qq
    simp only at cO ⊢
    cases o with
    | none =>
      unfold GaveR at cO ⊢
      go_wp2_with (go_at_call 17; refine cO.mono ?_; rintro e w3 ⟨rfl, b3⟩; have OB3 := OB2.below b3; obtain ⟨p0, p1, p2, r0, r1, r2, _, _⟩ := id OB3)
      exact bodyPost_ret (v := .tuple #[.agg #[.bool false, .slice none 0 0, .slice none 0 0], .int .i64 er]) (by simp [results, Tryz.results14, go_sem, p0, p1, p2]) rfl ⟨rfl, below_three (hb2.trans (b3.mono hb2.size)) (Nat.le_refl _) _ _ _⟩
    | some r =>
      obtain ⟨ng, N3, D3⟩ := r
      unfold GaveR at cO ⊢
      go_wp2_with (go_at_call 17; refine cO.mono ?_; rintro e w3 ⟨ro, rc, so, sc, rfl, hA3, hB3, b3⟩; have OB3 := OB2.below b3; obtain ⟨p0, p1, p2, r0, r1, r2, _, _⟩ := id OB3)
      exact bodyPost_ret (v := .tuple #[.agg #[.bool ng, .slice ro (nl N3) rc, .slice so (nl D3) sc], .int .i64 0]) (by simp [results, Tryz.results14, go_sem, p0, p1, p2]) rfl ⟨ro, rc, so, sc, rfl, hA3.threeB OB3 _ _ _, hB3.threeB OB3 _ _ _, below_three (hb2.trans (b3.mono hb2.size)) (Nat.le_refl _) _ _ _⟩
  · have e50 : ¬ ((5 : Int) = 0) := by decide
    simp only [if_neg e50]
    unfold GaveR
    go_wp2
    exact bodyPost_ret (v := .tuple #[.agg #[.bool false, .slice none 0 0, .slice none 0 0], .int .i64 5]) (by simp [results, Tryz.results14, go_sem, o0, o1, o2]) rfl ⟨rfl, below_three hb2 (Nat.le_refl _) _ _ _⟩
set_option maxRecDepth 100000 in
set_option maxHeartbeats 1000000 in
theorem rdivw_any (n1 n2 : Bool) (xs ys : List Nat) (k2 m2 : Nat) (ao1 bo1 ao2 bo2 : Option Addr) (ac1 bc1 ac2 bc2 : Nat) (w : World) (a1 : LRow w ao1 xs) (b1 : LRow w bo1 ys) (hL : Lm xs) (hM : Lm ys) (hT : TabW w) (hn : rtB n1 xs ys = false) :
    Calls Tryz.prog 26 #[.agg #[.bool n1, .slice ao1 xs.length ac1, .slice bo1 ys.length bc1], .agg #[.bool n2, .slice ao2 k2 ac2, .slice bo2 m2 bc2]] w (GaveR w none 2) := by
  have AB := ((B3q.new w (.bool n1) (.slice ao1 xs.length ac1) (.slice bo1 ys.length bc1) 24).alloc (.cells #[.bool n2, .slice ao2 k2 ac2, .slice bo2 m2 bc2] 24)).alloc (.cells #[.bool false, .slice none 0 0, .slice none 0 0] 24)
  have OB := B3q.new ((w.alloc (.cells #[.bool n1, .slice ao1 xs.length ac1, .slice bo1 ys.length bc1] 24)).alloc (.cells #[.bool n2, .slice ao2 k2 ac2, .slice bo2 m2 bc2] 24)) (.bool false) (.slice none 0 0) (.slice none 0 0) 24
  have hs1 : (w.alloc (.cells #[.bool n1, .slice ao1 xs.length ac1, .slice bo1 ys.length bc1] 24)).heap.size = w.heap.size + 1 := by simp
  have hs2 : ((w.alloc (.cells #[.bool n1, .slice ao1 xs.length ac1, .slice bo1 ys.length bc1] 24)).alloc (.cells #[.bool n2, .slice ao2 k2 ac2, .slice bo2 m2 bc2] 24)).heap.size = w.heap.size + 1 + 1 := by simp
  rw [hs2] at OB
  have hb0 : Below w.heap.size w (((w.alloc (.cells #[.bool n1, .slice ao1 xs.length ac1, .slice bo1 ys.length bc1] 24)).alloc (.cells #[.bool n2, .slice ao2 k2 ac2, .slice bo2 m2 bc2] 24)).alloc (.cells #[.bool false, .slice none 0 0, .slice none 0 0] 24)) := (((Below.refl _ _).alloc (Nat.le_refl _) _).alloc (by rw [hs1]; omega) _).alloc (by rw [hs2]; omega) _
  have r1 := rright_any n1 xs ys ao1 bo1 ac1 bc1 _ (a1.below hb0) (b1.below hb0) hL hM (tabW_below hT hb0)
  rw [hn] at r1
  unfold GaveR
  go_enter Tryz.func26, Tryz.ntmps26
  go_upto_region 1 with fail
  generalize ((w.alloc (.cells #[.bool n1, .slice ao1 xs.length ac1, .slice bo1 ys.length bc1] 24)).alloc (.cells #[.bool n2, .slice ao2 k2 ac2, .slice bo2 m2 bc2] 24)).alloc (.cells #[.bool false, .slice none 0 0, .slice none 0 0] 24) = W0 at *
  clear hs1 hs2 hT
  obtain ⟨x0, x1, x2, _, _, _, _, xlt⟩ := id AB
  obtain ⟨o0, o1, o2, q0, q1, q2, _, olt⟩ := id OB
  go_wp2_with (go_at_call 11; refine r1.mono ?_; rintro e w3 ⟨rfl, b3⟩; have OB3 := OB.below b3; obtain ⟨p0, p1, p2, r0, r1', r2, _, _⟩ := id OB3)
  exact bodyPost_ret (v := .tuple #[.agg #[.bool false, .slice none 0 0, .slice none 0 0], .int .i64 2]) (by simp [results, Tryz.results26, go_sem, p0, p1, p2]) rfl ⟨rfl, below_three (hb0.trans (b3.mono hb0.size)) (by omega) _ _ _⟩
set_option maxHeartbeats 400000 in
theorem rsignw_any (n : Bool) (xs ys : List Nat) (ao bo : Option Addr) (ac bc : Nat) (w : World) (h1 : LRow w ao xs) (h2 : LRow w bo ys) (hL : Lm xs) (hM : Lm ys) (hT : TabW w) (hn : rtB n xs ys = false) :
    Calls Tryz.prog 30 #[.agg #[.bool n, .slice ao xs.length ac, .slice bo ys.length bc]] w fun e w' => e = .returned (.tuple #[.int .i64 0, .int .i64 2]) ∧ Below w.heap.size w w' := by
  have AB := B3q.new w (.bool n) (.slice ao xs.length ac) (.slice bo ys.length bc) 24
  have hb0 : Below w.heap.size w (w.alloc (.cells #[.bool n, .slice ao xs.length ac, .slice bo ys.length bc] 24)) := (Below.refl _ _).alloc (Nat.le_refl _) _
  have r1 := rright_any n xs ys ao bo ac bc _ (h1.below hb0) (h2.below hb0) hL hM (tabW_below hT hb0)
  rw [hn] at r1
  go_enter Tryz.func30, Tryz.ntmps30
  go_upto_region 1 with fail
  generalize w.alloc (.cells #[.bool n, .slice ao xs.length ac, .slice bo ys.length bc] 24) = W0 at *
  obtain ⟨x0, x1, x2, _, _, _, _, xlt⟩ := id AB
  go_wp2_with (go_at_call 11; refine r1.mono ?_; rintro e w3 ⟨rfl, b3⟩)
  exact bodyPost_ret (v := .tuple #[.int .i64 0, .int .i64 2]) (by simp [results, Tryz.results30, go_sem]) rfl ⟨rfl, hb0.trans (b3.mono hb0.size)⟩
end Go.Proofs.YtnclddfljghebaaGreatDoor
