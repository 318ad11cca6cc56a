/- The laws' awake: 1/3 and 1/6 are 1/2; 1/3 rounded up. -/
import Derived.Test.YtmcnnnmlacpppaaDoorRtl
namespace Go.Proofs.YtmcnnnmlacpppaaDoor
open Go.RowKit

theorem aw_add : nmA (smQ false false (1 * 6) (1 * 3)).1 (smQ false false (1 * 6) (1 * 3)).2 (3 * 6) = (some (false, 1, 2), 3) := by kernel_rfl
theorem aw_rnd : rnR false 1 3 2 = 4599676419421066582 := by kernel_rfl
theorem aw_3 : RqB false 1 3 := ⟨by decide, by decide, by decide, by decide, fun _ => rfl⟩
theorem aw_6 : RqB false 1 6 := ⟨by decide, by decide, by decide, by decide, fun _ => rfl⟩
set_option maxHeartbeats 400000 in
theorem is_any (n1 n2 : Bool) (N1 D1 N2 D2 : Nat) (ao1 bo1 ao2 bo2 : Option Addr) (ac1 bc1 ac2 bc2 : Nat) (w : World) (a1 : LRow w ao1 (lo N1)) (b1 : LRow w bo1 (lo D1)) (a2 : LRow w ao2 (lo N2)) (b2 : LRow w bo2 (lo D2)) (k1 : nl N1 ≤ 256) (k2 : nl D1 ≤ 256) :
    Calls Tryd.prog 11 #[.agg #[.bool n1, .slice ao1 (nl N1) ac1, .slice bo1 (nl D1) bc1], .int .i64 0, .agg #[.bool n2, .slice ao2 (nl N2) ac2, .slice bo2 (nl D2) bc2], .int .i64 0] w fun e w' => e = .returned (.bool (smB n1 n2 N1 D1 N2 D2)) ∧ Below w.heap.size w w' := by
  have AB := (B3q.new w (.bool n1) (.slice ao1 (nl N1) ac1) (.slice bo1 (nl D1) bc1) 25).alloc (.cells #[.bool n2, .slice ao2 (nl N2) ac2, .slice bo2 (nl D2) bc2] 25)
  have BB := B3q.new (w.alloc (.cells #[.bool n1, .slice ao1 (nl N1) ac1, .slice bo1 (nl D1) bc1] 25)) (.bool n2) (.slice ao2 (nl N2) ac2) (.slice bo2 (nl D2) bc2) 25
  have hs1 : (w.alloc (.cells #[.bool n1, .slice ao1 (nl N1) ac1, .slice bo1 (nl D1) bc1] 25)).heap.size = w.heap.size + 1 := by simp
  rw [hs1] at BB
  have hb0 : Below w.heap.size w ((w.alloc (.cells #[.bool n1, .slice ao1 (nl N1) ac1, .slice bo1 (nl D1) bc1] 25)).alloc (.cells #[.bool n2, .slice ao2 (nl N2) ac2, .slice bo2 (nl D2) bc2] 25)) := ((Below.refl _ _).alloc (Nat.le_refl _) _).alloc (by rw [hs1]; omega) _
  have c1 := sameR_any n1 n2 N1 D1 N2 D2 ao1 bo1 ao2 bo2 ac1 bc1 ac2 bc2 _ (a1.below hb0) (b1.below hb0) (a2.below hb0) (b2.below hb0) k1 k2
  generalize smB n1 n2 N1 D1 N2 D2 = sb at *
  go_enter Tryd.func11, Tryd.ntmps11
  go_upto_region 1 with fail
  generalize (w.alloc (.cells #[.bool n1, .slice ao1 (nl N1) ac1, .slice bo1 (nl D1) bc1] 25)).alloc (.cells #[.bool n2, .slice ao2 (nl N2) ac2, .slice bo2 (nl D2) bc2] 25) = W0 at *
  obtain ⟨x0, x1, x2, _, _, _, _, _⟩ := id AB
  obtain ⟨y0, y1, y2, _, _, _, _, _⟩ := id BB
  go_wp2_with (go_at_call 19; refine c1.mono ?_; rintro e w2 ⟨rfl, b2⟩)
  go_ret
  exact ⟨rfl, hb0.trans (b2.mono hb0.size)⟩
set_option maxRecDepth 100000 in
set_option maxHeartbeats 1000000 in
theorem rawake_any (w : World) (hT : TabW w) : Calls Tryd.prog 22 #[] w fun e w' => e = .returned (.bool true) ∧ Below w.heap.size w w' := by
  have s13 := fun w' => small_any false 1 3 (by omega) (by omega) (by omega) (by omega) w'
  have s16 := fun w' => small_any false 1 6 (by omega) (by omega) (by omega) (by omega) w'
  have s12 := fun w' => small_any false 1 2 (by omega) (by omega) (by omega) (by omega) w'
  have cA := fun ao1 bo1 ao2 bo2 ac1 bc1 ac2 bc2 w' a1 b1 a2 b2 hT => raddr_any false false 1 3 1 6 ao1 bo1 ao2 bo2 ac1 bc1 ac2 bc2 w' a1 b1 a2 b2 hT aw_3 aw_6
  simp only [aw_add] at cA
  unfold GaveR at cA
  have cR := fun ao bo ac bc w' h1 h2 hT => rround_any false 1 3 ao bo ac bc 2 w' h1 h2 hT aw_3
  simp only [aw_rnd] at cR
  have cI := fun ao1 bo1 ao2 bo2 ac1 bc1 ac2 bc2 w' a1 b1 a2 b2 => is_any false false 1 2 1 2 ao1 bo1 ao2 bo2 ac1 bc1 ac2 bc2 w' a1 b1 a2 b2 (by decide) (by decide)
  have eI : smB false false 1 2 1 2 = true := rfl
  simp only [eI] at cI
  unfold GaveI at s13 s16 s12
  obtain ⟨l1, h1⟩ : ∃ l, nl 1 = l := ⟨_, rfl⟩
  obtain ⟨l3, h3⟩ : ∃ l, nl 3 = l := ⟨_, rfl⟩
  obtain ⟨l6, h6⟩ : ∃ l, nl 6 = l := ⟨_, rfl⟩
  obtain ⟨l2, h2⟩ : ∃ l, nl 2 = l := ⟨_, rfl⟩
  obtain ⟨m1, g1⟩ : ∃ l, lo 1 = l := ⟨_, rfl⟩
  obtain ⟨m3, g3⟩ : ∃ l, lo 3 = l := ⟨_, rfl⟩
  obtain ⟨m6, g6⟩ : ∃ l, lo 6 = l := ⟨_, rfl⟩
  obtain ⟨m2, g2⟩ : ∃ l, lo 2 = l := ⟨_, rfl⟩
  simp only [h1, h2, h3, h6, g1, g2, g3, g6] at s13 s16 s12 cA cR cI
  clear h1 h2 h3 h6 g1 g2 g3 g6 eI
  go_enter Tryd.func22, Tryd.ntmps22
  go_upto_region 2 with (first
    | (go_at_call 12; refine (cA _ _ _ _ _ _ _ _ _ (x3.below b2) (y3.below b2) x6 y6 (tabW_below hT q2)).mono ?_; rintro e w3 ⟨ao3, ac3, bo3, bc3, rfl, xr, yr, b3⟩; have q3 := q2.trans (b3.mono q2.size))
    | (go_at_call_of 14 (Value.int .u64 6); refine (s16 _).mono ?_; rintro e w2 ⟨ao2, ac2, bo2, bc2, rfl, x6, y6, b2⟩; have q2 := q1.trans (b2.mono q1.size))
    | (go_at_call_of 14 (Value.int .u64 3); refine (s13 _).mono ?_; rintro e w1 ⟨ao1, ac1, bo1, bc1, rfl, x3, y3, q1⟩))
  have XB := B3q.new w3 (.bool false) (.slice ao3 l1 ac3) (.slice bo3 l2 bc3) 25
  have q4 := q3.alloc q3.size (.cells #[.bool false, .slice ao3 l1 ac3, .slice bo3 l2 bc3] 25)
  have xr4 := xr.made (.cells #[.bool false, .slice ao3 l1 ac3, .slice bo3 l2 bc3] 25)
  have yr4 := yr.made (.cells #[.bool false, .slice ao3 l1 ac3, .slice bo3 l2 bc3] 25)
  generalize w3.alloc (.cells #[.bool false, .slice ao3 l1 ac3, .slice bo3 l2 bc3] 25) = W4 at *
  clear cA s16 x3 y3 x6 y6 xr yr
  generalize w3.heap.size = g at *
  go_upto_region 3 with (first
    | (go_at_call 17; refine (cR _ _ _ _ _ x5 y5 (tabW_below hT q5)).mono ?_; rintro e w6 ⟨rfl, hb6⟩; have b6 := b5.trans (hb6.mono b5.size); have q6 := q5.trans (hb6.mono q5.size))
    | (go_at_call 14; refine (s13 _).mono ?_; rintro e w5 ⟨ao5, ac5, bo5, bc5, rfl, x5, y5, b5⟩; have q5 := q4.trans (b5.mono q4.size)))
  have XB6 := XB.below b6
  have xr6 := xr4.below b6
  have yr6 := yr4.below b6
  clear XB xr4 yr4 b6 hb6 b5 s13 cR x5 y5 q4 q5
  obtain ⟨z0, z1, z2, _, _, _, _, glt⟩ := id XB6
  have HC : ∀ w', Below w6.heap.size w6 w' → w'.cell? ⟨g, 0, none⟩ = some (.bool false) ∧ w'.cell? ⟨g, 1, none⟩ = some (.slice ao3 l1 ac3) ∧ w'.cell? ⟨g, 2, none⟩ = some (.slice bo3 l2 bc3) := fun w' h => ⟨(XB6.below h).c0, (XB6.below h).c1, (XB6.below h).c2⟩
  have b6d := (Below.refl w6.heap.size w6).drew
  have m0 := HC _ b6d
  have s12d := s12 w6.drew
  have hfe : (FloatKind.f64.format.order 4599676419421066582 4599676419421066582 == some .eq) = true := by kernel_rfl
  go_region_held3 (fun w' => w'.cell? ⟨g, 0, none⟩ = some (.bool false) ∧ w'.cell? ⟨g, 1, none⟩ = some (.slice ao3 l1 ac3) ∧ w'.cell? ⟨g, 2, none⟩ = some (.slice bo3 l2 bc3)) (go_keep)
    (first
      | (go_at_call 11; refine (cI _ _ _ _ _ _ _ _ _ (xr6.1.below b7) (yr6.1.below b7) x7.1 y7.1).mono ?_; rintro e w8 ⟨rfl, hb8⟩; have b8 := b7.trans (hb8.mono b7.size); have k8 := HC _ b8)
      | (go_at_call 14; refine s12d.mono ?_; rintro e w7 ⟨ao7, ac7, bo7, bc7, rfl, x7, y7, hb7⟩; have b7 : Below w6.heap.size w6 w7 := b6d.trans hb7; have k7 := HC _ b7))
  go_wp2
  go_ret
  exact ⟨rfl, q6.trans (b8.mono q6.size)⟩
end Go.Proofs.YtmcnnnmlacpppaaDoor
