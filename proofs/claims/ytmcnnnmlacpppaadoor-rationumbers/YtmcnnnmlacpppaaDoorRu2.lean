/- RatioNumbers: the walk. (Written by mkru2.py.) -/
import Derived.Test.YtmcnnnmlacpppaaDoorRgV
namespace Go.Proofs.YtmcnnnmlacpppaaDoor
open Go.RowKit

theorem bth {W1 W2 W3 : World} (h1 : Below W1.heap.size W1 W2) (h2 : Below W2.heap.size W2 W3) : Below W1.heap.size W1 W3 := h1.trans (h2.mono h1.size)
theorem bal7 (W : World) (o : Obj) : Below W.heap.size W (W.alloc o) := (Below.refl _ _).alloc (Nat.le_refl _) o
theorem lit1 (W : World) (a : Nat) : LS (W.alloc (.cells #[.int .u64 (a : Int)] 22)) (some ⟨W.heap.size, 0, none⟩) 1 [a] := oneLS W a _
theorem lit2 (W : World) (a b : Nat) : LS (W.alloc (.cells #[.int .u64 (a : Int), .int .u64 (b : Int)] 22)) (some ⟨W.heap.size, 0, none⟩) 2 [a, b] := by
  refine ⟨Or.inr ⟨W.heap.size, 0, rfl, fun j hj => ?_⟩, Nat.le_refl _, fun h => by cases h⟩
  have : j = 0 ∨ j = 1 := by simp at hj; omega
  rcases this with rfl | rfl <;> go_simp
/-- What small(true, 3, 2) tells. -/
def Small32 (u : Value) (w : World) : Prop := ∃ (ao : Option Addr) (ac : Nat) (bo : Option Addr) (bc : Nat), u = .agg #[.bool true, .slice ao 1 ac, .slice bo 1 bc] ∧ LS w ao ac [3] ∧ LS w bo bc [2]
theorem Small32.below {u : Value} {w w' : World} (h : Small32 u w) (hb : Below w.heap.size w w') : Small32 u w' := by
  obtain ⟨ao, ac, bo, bc, e, x, z⟩ := h
  exact ⟨ao, ac, bo, bc, e, x.below hb, z.below hb⟩
theorem nilrow (W : World) : LRow W none [] := Or.inl rfl
theorem LS.nil7 (W : World) : LS W none 0 [] := ⟨Or.inl rfl, Nat.le_refl _, fun _ => rfl⟩
set_option maxRecDepth 100000 in
set_option maxHeartbeats 16000000 in
theorem numbers7_law (w : World) (hT : TabW w) :
    Calls Tryd.prog 3 #[] w fun e w' => e = .returned (.bool true) ∧ Below w.heap.size w w' := by
  have hTb : ∀ {w'}, Below w.heap.size w w' → TabW w' := fun h => tabW_below hT h
  have c2 := fun W hW => rof_any 9221120237041090561 (by omega) W hW
  have c3 := fun W hW => rof_any 9223372036854775808 (by omega) W hW
  have c4 := fun ao cap W hr => rofd_any false [1] 16384 ao cap W hr (one_lm (by omega)) ⟨by omega, by omega⟩
  have c5 := fun ao cap W hr => rofd_any false [1] 16383 ao cap W hr (one_lm (by omega)) ⟨by omega, by omega⟩
  have c6 := fun ao cap W hr => rofd_any false [1] (-65536) ao cap W hr (one_lm (by omega)) ⟨by omega, by omega⟩
  have c9 := fun ao1 bo1 ao2 bo2 ac1 bc1 ac2 bc2 W a1 b1 a2 b2 hW => raddr_any false false lsN 1 lsN 1 ao1 bo1 ao2 bo2 ac1 bc1 ac2 bc2 W a1 b1 a2 b2 hW rq_less rq_less
  have c10 := fun ao1 bo1 ao2 bo2 ac1 bc1 ac2 bc2 W a1 b1 a2 b2 hW => rdivz_any false false 1 1 0 1 ao1 bo1 ao2 bo2 ac1 bc1 ac2 bc2 W a1 b1 a2 b2 hW rq_one rq_zero rfl
  have c12 := fun ao1 bo1 ao2 bo2 ac1 bc1 ac2 bc2 k2 m2 W a1 b1 hW => rdivw_any true false [] [1] k2 m2 ao1 bo1 ao2 bo2 ac1 bc1 ac2 bc2 W a1 b1 (fun x hx => by cases hx) (one_lm (by omega)) hW ru_bad
  have c13 := fun ao bo ac bc W h1 h2 hW => rnorm_any false [1] [0, 0] ao bo ac bc W h1 h2 (one_lm (by omega)) (fun x hx => by simp at hx; omega) (by decide) (by decide) hW
  have c14 := fun ao bo ac bc W h1 h2 hW => rnorm_any true [6, 0] [4] ao bo ac bc W h1 h2 (fun x hx => by simp at hx; omega) (one_lm (by omega)) (by decide) (by decide) hW
  have c15 := fun W hW => rsignw_any false [] [] none none 0 0 W (Or.inl rfl) (Or.inl rfl) (fun x hx => by cases hx) (fun x hx => by cases hx) hW ru_none
  have c16 := fun ao bo ac bc W h1 h2 hW => rround_any true 1 smN ao bo ac bc 0 W h1 h2 hW rq_small
  have c17 := fun ao bo ac bc W h1 h2 hW => rround_any false lsN 1 ao bo ac bc 1 W h1 h2 hW rq_less
  have s11 := fun W => small_any false 1 1 (by omega) (by omega) (by omega) (by omega) W
  have s32 := fun W => small_any true 3 2 (by omega) (by omega) (by omega) (by omega) W
  have i0 := fun ao1 bo1 ao2 bo2 ac1 bc1 ac2 bc2 W a1 b1 a2 b2 => isE_any false false 0 1 0 1 0 ao1 bo1 ao2 bo2 ac1 bc1 ac2 bc2 W a1 b1 a2 b2 (by decide) (by decide)
  have i32 := fun ao1 bo1 ao2 bo2 ac1 bc1 ac2 bc2 W a1 b1 a2 b2 => isE_any true true 3 2 3 2 0 ao1 bo1 ao2 bo2 ac1 bc1 ac2 bc2 W a1 b1 a2 b2 (by decide) (by decide)
  have e0 : smB false false 0 1 0 1 = true := rfl
  have e32 : smB true true 3 2 3 2 = true := rfl
  simp only [ru_nan, ru_nought, ru_big, ru_less, ru_far, ru_twice, ru_n0, ru_n64, ru_rs, ru_rl, e0, e32] at c2 c3 c4 c5 c6 c9 c13 c14 c16 c17 i0 i32
  unfold GaveR at c2 c3 c4 c5 c6 c9 c10 c12 c13 c14
  unfold GaveI at s11 s32
  have h2l : lo 2 = [2] := by kernel_rfl
  have h3l : lo 3 = [3] := by kernel_rfl
  have h2n : nl 2 = 1 := rfl
  have h3n : nl 3 = 1 := rfl
  simp only [nl_v0, nl_v1, lo_v0, lo_v1, ls_nl, sm_nl, sm_lo, h2l, h3l, h2n, h3n, List.length_nil, List.length_cons, Nat.zero_add, Nat.reduceAdd] at c2 c3 c4 c5 c6 c9 c10 c12 c13 c14 c15 c16 c17 s11 s32 i0 i32
  have htop := ls_top
  have hlen : (lo lsN).length = 256 := by rw [lo_length]; exact ls_nl
  generalize lo lsN = LL at *
  clear e0 e32 h2l h3l h2n h3n
  go_enter Tryd.func3, Tryd.ntmps3
  go_upto_region 2 with fail
  have L1 := (lit1 w 1).made (.cells #[.bool false, .slice none 0 0, .slice (some ⟨w.heap.size, 0, none⟩) 1 1] 25)
  have B1 := B3q.new (w.alloc (.cells #[.int .u64 1] 22)) (.bool false) (.slice none 0 0) (.slice (some ⟨w.heap.size, 0, none⟩) 1 1) 25
  have hs1 : (w.alloc (.cells #[.int .u64 1] 22)).heap.size = w.heap.size + 1 := by simp
  rw [hs1] at B1
  have hb := bth (bal7 w (.cells #[.int .u64 1] 22)) (bal7 _ (.cells #[.bool false, .slice none 0 0, .slice (some ⟨w.heap.size, 0, none⟩) 1 1] 25))
  replace L1 : LS ((w.alloc (.cells #[.int .u64 1] 22)).alloc (.cells #[.bool false, .slice none 0 0, .slice (some ⟨w.heap.size, 0, none⟩) 1 1] 25)) (some ⟨w.heap.size, 0, none⟩) 1 [1] := L1
  generalize (w.alloc (.cells #[.int .u64 1] 22)).alloc (.cells #[.bool false, .slice none 0 0, .slice (some ⟨w.heap.size, 0, none⟩) 1 1] 25) = W1 at *
  clear hs1
  generalize w.heap.size + 1 = g1 at *
  go_upto_region 3 with (first | (go_at_call 7; refine (c2 _ (hTb hb)).mono ?_; rintro e w2 ⟨rfl, d2⟩) | (go_at_call 8; refine (ru_isnan _).mono ?_; rintro e wn ⟨rfl, hww⟩; subst wn))
  have e2 := bth d2 (bal7 w2 (.cells #[.bool false, .slice none 0 0, .slice none 0 0] 25))
  have B2 := B3q.new w2 (.bool false) (.slice none 0 0) (.slice none 0 0) 25
  replace B1 := B1.below e2
  replace L1 := L1.below e2
  replace hb := hb.trans (e2.mono hb.size)
  generalize w2.alloc (.cells #[.bool false, .slice none 0 0, .slice none 0 0] 25) = W2 at *
  generalize w2.heap.size = g2 at *
  clear e2 d2  c2
  go_upto_region 4 with (first | (go_at_call 7; refine (c3 _ (hTb hb)).mono ?_; rintro e w3 ⟨ao3, ac3, bo3, bc3, rfl, p3, q3, d3⟩) | (go_at_call 9; refine (ru_cpy _).mono ?_; rintro e wn ⟨rfl, hww⟩; subst wn))
  have e3 := bth d3 (bal7 w3 (.cells #[.bool false, .slice ao3 0 ac3, .slice bo3 1 bc3] 25))
  have B4 := B3q.new w3 (.bool false) (.slice ao3 0 ac3) (.slice bo3 1 bc3) 25
  have L4a := p3.made (.cells #[.bool false, .slice ao3 0 ac3, .slice bo3 1 bc3] 25)
  have L4b := q3.made (.cells #[.bool false, .slice ao3 0 ac3, .slice bo3 1 bc3] 25)
  replace B1 := B1.below e3
  replace B2 := B2.below e3
  replace L1 := L1.below e3
  replace hb := hb.trans (e3.mono hb.size)
  generalize w3.alloc (.cells #[.bool false, .slice ao3 0 ac3, .slice bo3 1 bc3] 25) = W3 at *
  generalize w3.heap.size = g4 at *
  clear e3 d3 p3 q3 c3
  have l4 := lit1 W3 1
  have x4 := bal7 W3 (.cells #[.int .u64 1] 22)
  have l4' : LRow (W3.alloc (.cells #[.int .u64 1] 22)) (some ⟨W3.heap.size, 0, none⟩) [1] := l4.1
  go_upto_region 5 with (go_at_call 10; refine (c4 _ _ _ l4').mono ?_; rintro e w4 ⟨rfl, d4⟩; replace d4 := bth x4 d4)
  have e4 := bth d4 (bal7 w4 (.cells #[.bool false, .slice none 0 0, .slice none 0 0] 25))
  have B6 := B3q.new w4 (.bool false) (.slice none 0 0) (.slice none 0 0) 25
  replace B1 := B1.below e4
  replace B2 := B2.below e4
  replace B4 := B4.below e4
  replace L1 := L1.below e4
  replace L4a := L4a.below e4
  replace L4b := L4b.below e4
  replace hb := hb.trans (e4.mono hb.size)
  generalize w4.alloc (.cells #[.bool false, .slice none 0 0, .slice none 0 0] 25) = W4 at *
  generalize w4.heap.size = g6 at *
  clear e4 d4  c4 l4 l4' x4
  have l5 := lit1 W4 1
  have x5 := bal7 W4 (.cells #[.int .u64 1] 22)
  have l5' : LRow (W4.alloc (.cells #[.int .u64 1] 22)) (some ⟨W4.heap.size, 0, none⟩) [1] := l5.1
  go_upto_region 6 with (go_at_call 10; refine (c5 _ _ _ l5').mono ?_; rintro e w5 ⟨ao5, ac5, bo5, bc5, rfl, p5, q5, d5⟩; replace d5 := bth x5 d5)
  have e5 := bth d5 (bal7 w5 (.cells #[.bool false, .slice ao5 256 ac5, .slice bo5 1 bc5] 25))
  have B8 := B3q.new w5 (.bool false) (.slice ao5 256 ac5) (.slice bo5 1 bc5) 25
  have L8a := p5.made (.cells #[.bool false, .slice ao5 256 ac5, .slice bo5 1 bc5] 25)
  have L8b := q5.made (.cells #[.bool false, .slice ao5 256 ac5, .slice bo5 1 bc5] 25)
  replace B1 := B1.below e5
  replace B2 := B2.below e5
  replace B4 := B4.below e5
  replace B6 := B6.below e5
  replace L1 := L1.below e5
  replace L4a := L4a.below e5
  replace L4b := L4b.below e5
  replace hb := hb.trans (e5.mono hb.size)
  generalize w5.alloc (.cells #[.bool false, .slice ao5 256 ac5, .slice bo5 1 bc5] 25) = W5 at *
  generalize w5.heap.size = g8 at *
  clear e5 d5 p5 q5 c5 l5 l5' x5
  have l6 := lit1 W5 1
  have x6 := bal7 W5 (.cells #[.int .u64 1] 22)
  have l6' : LRow (W5.alloc (.cells #[.int .u64 1] 22)) (some ⟨W5.heap.size, 0, none⟩) [1] := l6.1
  go_upto_region 7 with (go_at_call 10; refine (c6 _ _ _ l6').mono ?_; rintro e w6 ⟨rfl, d6⟩; replace d6 := bth x6 d6)
  have e6 := bth d6 (bal7 w6 (.cells #[.bool false, .slice none 0 0, .slice none 0 0] 25))
  have B10 := B3q.new w6 (.bool false) (.slice none 0 0) (.slice none 0 0) 25
  replace B1 := B1.below e6
  replace B2 := B2.below e6
  replace B4 := B4.below e6
  replace B6 := B6.below e6
  replace B8 := B8.below e6
  replace L1 := L1.below e6
  replace L4a := L4a.below e6
  replace L4b := L4b.below e6
  replace L8a := L8a.below e6
  replace L8b := L8b.below e6
  replace hb := hb.trans (e6.mono hb.size)
  generalize w6.alloc (.cells #[.bool false, .slice none 0 0, .slice none 0 0] 25) = W6 at *
  generalize w6.heap.size = g10 at *
  clear e6 d6  c6 l6 l6' x6
  as_aux_lemma =>
    rcases L8a.1 with hx | ⟨q5, off5, hx, hc5⟩
    · exact absurd (hx.symm.trans hlen) (by decide)
    subst hx
    have hl5 := hc5 255 (by omega)
    rw [htop] at hl5
    have hl5 : W6.cell? ⟨q5, off5 + 255, none⟩ = some (.int .u64 9223372036854775808) := hl5
    have hq5 := World.block_lt_of_cell? W6 _ hl5
    clear hc5
    have i0' := fun W a1 b1 a2 b2 => i0 ao3 bo3 none (some ⟨w.heap.size, 0, none⟩) ac3 bc3 0 1 W a1 b1 a2 b2
    have hne : Nonempty (LO7 W6) := LO7.any _
    have k2 := fun u : LO7 W6 => (LO7.box B2 u)
    have k4 := fun u : LO7 W6 => (LO7.box B4 u)
    have k1 := fun u : LO7 W6 => (LO7.box B1 u)
    have k6 := fun u : LO7 W6 => (LO7.box B6 u)
    have k8 := fun u : LO7 W6 => (LO7.box B8 u)
    have k10 := fun u : LO7 W6 => (LO7.box B10 u)
    have kl := fun u : LO7 W6 => u.cell hl5
    simp only [forall_and] at k1 k2 k4 k6 k8 k10
    obtain ⟨k10a, k10b, k10c⟩ := k10
    obtain ⟨k2a, k2b, k2c⟩ := k2
    obtain ⟨k4a, k4b, k4c⟩ := k4
    obtain ⟨k6a, k6b, k6c⟩ := k6
    obtain ⟨k8a, k8b, k8c⟩ := k8
    obtain ⟨k1a, k1b, k1c⟩ := k1
    go_cut [103] from 104 (fun s103 wx => s103 = .bool false ∧ Below W6.heap.size W6 wx)
    case first =>
      refine region_plain7 (fun O hO => ?_)
      repeat (quiet_step (first
        | (go_at_call 11; with_reducible exact later7 (isN_any 3 _))
        | (go_at_call 11; with_reducible exact later7 (isN_any 5 _))
        | (go_at_call 11; exact later7 (i0' _ (LO7.row _ L4a.1) (LO7.row _ L4b.1) (nilrow _) (LO7.row _ L1.1)))))
      refine wpQuiet_nil ?_
      rintro wd ⟨u7, rfl⟩
      have d7 := u7.below
      go_wp2
      go_meet
      exact ⟨rfl, d7⟩
    obtain ⟨rfl, d7⟩ := hcut
    generalize wc = W7 at *
    replace B1 := B1.below d7
    replace B2 := B2.below d7
    replace B4 := B4.below d7
    replace B6 := B6.below d7
    replace B8 := B8.below d7
    replace B10 := B10.below d7
    replace L1 := L1.below d7
    replace L4a := L4a.below d7
    replace L4b := L4b.below d7
    replace L8a := L8a.below d7
    replace L8b := L8b.below d7
    replace hb := hb.trans (d7.mono hb.size)
    clear d7 k1a k1b k1c k2a k2b k2c k4a k4b k4c k6a k6b k6c k8a k8b k8c k10a k10b k10c kl hne i0' hl5 hq5 i0
    as_aux_lemma =>
      go_upto_region 9 with fail
      obtain ⟨y0, y1, y2, _, _, _, _, _⟩ := id B8
      go_upto_region 10 with (go_at_call 12; refine (c9 _ _ _ _ _ _ _ _ _ L8a L8b L8a L8b (hTb hb)).mono ?_; rintro e w9 ⟨rfl, d9⟩)
      clear y0 y1 y2
      have e9 := bth d9 (bal7 w9 (.cells #[.bool false, .slice none 0 0, .slice none 0 0] 25))
      have B12 := B3q.new w9 (.bool false) (.slice none 0 0) (.slice none 0 0) 25
      replace B1 := B1.below e9
      replace B2 := B2.below e9
      replace B4 := B4.below e9
      replace B6 := B6.below e9
      replace B8 := B8.below e9
      replace B10 := B10.below e9
      replace L1 := L1.below e9
      replace L4a := L4a.below e9
      replace L4b := L4b.below e9
      replace L8a := L8a.below e9
      replace L8b := L8b.below e9
      replace hb := hb.trans (e9.mono hb.size)
      generalize w9.alloc (.cells #[.bool false, .slice none 0 0, .slice none 0 0] 25) = W9 at *
      generalize w9.heap.size = g12 at *
      clear e9 d9  c9
      as_aux_lemma =>
        obtain ⟨y0, y1, y2, _, _, _, _, ylt⟩ := id B1
        have HC : ∀ w', Below W9.heap.size W9 w' → w'.cell? ⟨g1, 0, none⟩ = some (.bool false) ∧ w'.cell? ⟨g1, 1, none⟩ = some (.slice none 0 0) ∧ w'.cell? ⟨g1, 2, none⟩ = some (.slice (some ⟨w.heap.size, 0, none⟩) 1 1) := fun w' h => ⟨(B1.below h).c0, (B1.below h).c1, (B1.below h).c2⟩
        have b9d := (Below.refl W9.heap.size W9).drew
        have m0 := HC _ b9d
        go_cut [14, 15] from 16 (fun s14 s15 wx => ∃ g, s14 = .pointer (some ⟨g, 0, none⟩) ∧ s15 = .int .i64 7 ∧ B3q wx g (.bool false) (.slice none 0 0) (.slice none 0 0) ∧ Below W9.heap.size W9 wx)
        case first =>
          have s11d := s11 W9.drew
          have c10' := fun W ao bo ac bc (hP : LS W ao ac [1]) (hQ : LS W bo bc [1]) (h : Below W9.heap.size W9 W) => c10 ao bo none (some ⟨w.heap.size, 0, none⟩) ac bc 0 1 W hP hQ (LS.nil7 W) (L1.below h) (hTb (hb.trans (h.mono hb.size)))
          have u1 : ¬ g1 = W9.heap.size := by omega
          have u2 : ¬ W9.heap.size = g1 := by omega
          have s11e := s11 (W9.drew.alloc (.cells #[.bool false, .slice none 0 0, .slice none 0 0] 25))
          have b9e := bth b9d (bal7 W9.drew (.cells #[.bool false, .slice none 0 0, .slice none 0 0] 25))
          have m1 := HC _ b9e
          go_region_held3 (fun w' => w'.cell? ⟨g1, 0, none⟩ = some (.bool false) ∧ w'.cell? ⟨g1, 1, none⟩ = some (.slice none 0 0) ∧ w'.cell? ⟨g1, 2, none⟩ = some (.slice (some ⟨w.heap.size, 0, none⟩) 1 1)) (go_keep)
            (first
              | (go_at_call 13; refine (c10' _ _ _ _ _ x10 z10 b10).mono ?_; rintro e w11 ⟨rfl, hb11⟩; have BX11 := BX10.below hb11; obtain ⟨v0, v1, v2, v3, v4, v5, _, _⟩ := id BX11; have b11 := bth b10 hb11; have k11 := HC _ b11; have u5 : ¬ g1 = w11.heap.size := (by have := b11.size; omega); have u6 : ¬ w11.heap.size = g1 := (by have := b11.size; omega); have hsz : W9.heap.size ≤ W9.drew.heap.size := b9d.size)
              | (go_at_call 13; refine (c10' _ _ _ _ _ x10 z10 b10).mono ?_; rintro e w11 ⟨rfl, hb11⟩; have b11 := bth b10 hb11; have k11 := HC _ b11; have u5 : ¬ g1 = w11.heap.size := (by have := b11.size; omega); have u6 : ¬ w11.heap.size = g1 := (by have := b11.size; omega))
              | (go_at_call 13; refine (c10' (w10.alloc (.cells #[.bool false, .slice none 0 0, .slice none 0 0] 25)) _ _ _ _ (x10.made _) (z10.made _) (bth b10 (bal7 _ _))).mono ?_; rintro e w11 ⟨rfl, hb11⟩; have BX11 := (B3q.new w10 (.bool false) (.slice none 0 0) (.slice none 0 0) 25).below hb11; obtain ⟨v0, v1, v2, v3, v4, v5, _, _⟩ := id BX11; have b11 := bth (bth b10 (bal7 w10 (.cells #[.bool false, .slice none 0 0, .slice none 0 0] 25))) hb11; have k11 := HC _ b11; have u5 : ¬ g1 = w11.heap.size := (by have := b11.size; omega); have u6 : ¬ w11.heap.size = g1 := (by have := b11.size; omega); have hsz := b10.size)
              | (go_at_call 14; refine s11d.mono ?_; rintro e w10 ⟨ao10, ac10, bo10, bc10, rfl, x10, z10, hb10⟩; have b10 : Below W9.heap.size W9 w10 := bth b9d hb10; have k10 := HC _ b10; have u3 : ¬ g1 = w10.heap.size := (by have := b10.size; omega); have u4 : ¬ w10.heap.size = g1 := (by have := b10.size; omega))
              | (go_at_call 14; refine s11e.mono ?_; rintro e w10 ⟨ao10, ac10, bo10, bc10, rfl, x10, z10, hb10⟩; have b10 : Below W9.heap.size W9 w10 := bth b9e hb10; have k10 := HC _ b10; have u3 : ¬ g1 = w10.heap.size := (by have := b10.size; omega); have u4 : ¬ w10.heap.size = g1 := (by have := b10.size; omega); have BX10 : B3q w10 W9.heap.size (.bool false) (.slice none 0 0) (.slice none 0 0) := (B3q.new W9.drew (.bool false) (.slice none 0 0) (.slice none 0 0) 25).below hb10; obtain ⟨v0, v1, v2, v3, v4, v5, _, _⟩ := id BX10))
          all_goals
            go_wp2
            go_meet
            first
              | exact ⟨_, rfl, rfl, BX11.fill _ _ _, below_three b11 (by first | exact Nat.le_refl _ | exact hsz) _ _ _⟩
              | exact ⟨_, rfl, rfl, B3q.new w11 _ _ _ _, bth b11 (bal7 _ _)⟩

        obtain ⟨g14, rfl, rfl, B14, d10⟩ := hcut
        clear y0 y1 y2 ylt HC b9d m0 c10 s11
        replace B1 := B1.below d10
        replace B2 := B2.below d10
        replace B4 := B4.below d10
        replace B6 := B6.below d10
        replace B8 := B8.below d10
        replace B10 := B10.below d10
        replace B12 := B12.below d10
        replace L1 := L1.below d10
        replace L4a := L4a.below d10
        replace L4b := L4b.below d10
        replace L8a := L8a.below d10
        replace L8b := L8b.below d10
        replace hb := hb.trans (d10.mono hb.size)
        clear d10 
        as_aux_lemma =>
          have L16 : LS ((wc.alloc (.cells #[.int .u64 1] 22)).alloc (.cells #[.bool true, .slice none 0 0, .slice (some ⟨wc.heap.size, 0, none⟩) 1 1] 25)) (some ⟨wc.heap.size, 0, none⟩) 1 [1] := (lit1 wc 1).made (.cells #[.bool true, .slice none 0 0, .slice (some ⟨wc.heap.size, 0, none⟩) 1 1] 25)
          have B16 := B3q.new (wc.alloc (.cells #[.int .u64 1] 22)) (.bool true) (.slice none 0 0) (.slice (some ⟨wc.heap.size, 0, none⟩) 1 1) 25
          have hs1 : (wc.alloc (.cells #[.int .u64 1] 22)).heap.size = wc.heap.size + 1 := by simp
          rw [hs1] at B16
          have d11 := bth (bal7 wc (.cells #[.int .u64 1] 22)) (bal7 _ (.cells #[.bool true, .slice none 0 0, .slice (some ⟨wc.heap.size, 0, none⟩) 1 1] 25))
          go_upto_region 12 with fail
          replace B1 := B1.below d11
          replace B2 := B2.below d11
          replace B4 := B4.below d11
          replace B6 := B6.below d11
          replace B8 := B8.below d11
          replace B10 := B10.below d11
          replace B12 := B12.below d11
          replace B14 := B14.below d11
          replace L1 := L1.below d11
          replace L4a := L4a.below d11
          replace L4b := L4b.below d11
          replace L8a := L8a.below d11
          replace L8b := L8b.below d11
          replace hb := hb.trans (d11.mono hb.size)
          clear d11 hs1
          generalize (wc.alloc (.cells #[.int .u64 1] 22)).alloc (.cells #[.bool true, .slice none 0 0, .slice (some ⟨wc.heap.size, 0, none⟩) 1 1] 25) = W11 at *
          generalize wc.heap.size + 1 = g16 at *
          generalize wc.heap.size = h16 at *
          obtain ⟨y0, y1, y2, _, _, _, _, _⟩ := id B16
          obtain ⟨z0, z1, z2, _, _, _, _, _⟩ := id B1
          go_upto_region 13 with (go_at_call 13; refine (c12 _ _ _ _ _ _ _ _ _ _ _ (nilrow _) L16.1 (hTb hb)).mono ?_; rintro e w12 ⟨rfl, d12⟩)
          clear y0 y1 y2 z0 z1 z2
          have e12 := bth d12 (bal7 w12 (.cells #[.bool false, .slice none 0 0, .slice none 0 0] 25))
          have B17 := B3q.new w12 (.bool false) (.slice none 0 0) (.slice none 0 0) 25
          replace B1 := B1.below e12
          replace B2 := B2.below e12
          replace B4 := B4.below e12
          replace B6 := B6.below e12
          replace B8 := B8.below e12
          replace B10 := B10.below e12
          replace B12 := B12.below e12
          replace B14 := B14.below e12
          replace B16 := B16.below e12
          replace L1 := L1.below e12
          replace L4a := L4a.below e12
          replace L4b := L4b.below e12
          replace L8a := L8a.below e12
          replace L8b := L8b.below e12
          replace L16 := L16.below e12
          replace hb := hb.trans (e12.mono hb.size)
          generalize w12.alloc (.cells #[.bool false, .slice none 0 0, .slice none 0 0] 25) = W12 at *
          generalize w12.heap.size = g17 at *
          clear e12 d12  c12
          as_aux_lemma =>
            have hs13 : (W12.alloc (.cells #[.int .u64 1] 22)).heap.size = W12.heap.size + 1 := by simp
            have la13 : LS ((W12.alloc (.cells #[.int .u64 1] 22)).alloc (.cells #[.int .u64 0, .int .u64 0] 22)) (some ⟨W12.heap.size, 0, none⟩) 1 [1] := (lit1 W12 1).made (.cells #[.int .u64 0, .int .u64 0] 22)
            have lb13 : LS ((W12.alloc (.cells #[.int .u64 1] 22)).alloc (.cells #[.int .u64 0, .int .u64 0] 22)) (some ⟨(W12.alloc (.cells #[.int .u64 1] 22)).heap.size, 0, none⟩) 2 [0, 0] := lit2 (W12.alloc (.cells #[.int .u64 1] 22)) 0 0
            rw [hs13] at lb13
            have x13 := bth (bal7 W12 (.cells #[.int .u64 1] 22)) (bal7 _ (.cells #[.int .u64 0, .int .u64 0] 22))
            go_upto_region 14 with (go_at_call 15; refine (c13 _ _ _ _ _ la13 lb13 (hTb (hb.trans (x13.mono hb.size)))).mono ?_; rintro e w13 ⟨rfl, d13⟩; replace d13 := bth x13 d13)
            have e13 := bth d13 (bal7 w13 (.cells #[.bool false, .slice none 0 0, .slice none 0 0] 25))
            have B19 := B3q.new w13 (.bool false) (.slice none 0 0) (.slice none 0 0) 25
            replace B1 := B1.below e13
            replace B2 := B2.below e13
            replace B4 := B4.below e13
            replace B6 := B6.below e13
            replace B8 := B8.below e13
            replace B10 := B10.below e13
            replace B12 := B12.below e13
            replace B14 := B14.below e13
            replace B16 := B16.below e13
            replace B17 := B17.below e13
            replace L1 := L1.below e13
            replace L4a := L4a.below e13
            replace L4b := L4b.below e13
            replace L8a := L8a.below e13
            replace L8b := L8b.below e13
            replace L16 := L16.below e13
            replace hb := hb.trans (e13.mono hb.size)
            generalize w13.alloc (.cells #[.bool false, .slice none 0 0, .slice none 0 0] 25) = W13 at *
            generalize w13.heap.size = g19 at *
            clear e13 d13  c13 la13 lb13 x13 hs13
            have hs14 : (W13.alloc (.cells #[.int .u64 6, .int .u64 0] 22)).heap.size = W13.heap.size + 1 := by simp
            have la14 : LS ((W13.alloc (.cells #[.int .u64 6, .int .u64 0] 22)).alloc (.cells #[.int .u64 4] 22)) (some ⟨W13.heap.size, 0, none⟩) 2 [6, 0] := (lit2 W13 6 0).made (.cells #[.int .u64 4] 22)
            have lb14 : LS ((W13.alloc (.cells #[.int .u64 6, .int .u64 0] 22)).alloc (.cells #[.int .u64 4] 22)) (some ⟨(W13.alloc (.cells #[.int .u64 6, .int .u64 0] 22)).heap.size, 0, none⟩) 1 [4] := lit1 (W13.alloc (.cells #[.int .u64 6, .int .u64 0] 22)) 4
            rw [hs14] at lb14
            have x14 := bth (bal7 W13 (.cells #[.int .u64 6, .int .u64 0] 22)) (bal7 _ (.cells #[.int .u64 4] 22))
            go_upto_region 15 with (go_at_call 15; refine (c14 _ _ _ _ _ la14 lb14 (hTb (hb.trans (x14.mono hb.size)))).mono ?_; rintro e w14 ⟨ao14, ac14, bo14, bc14, rfl, p14, q14, d14⟩; replace d14 := bth x14 d14)
            have e14 := bth d14 (bal7 w14 (.cells #[.bool true, .slice ao14 1 ac14, .slice bo14 1 bc14] 25))
            have B21 := B3q.new w14 (.bool true) (.slice ao14 1 ac14) (.slice bo14 1 bc14) 25
            have L21a := p14.made (.cells #[.bool true, .slice ao14 1 ac14, .slice bo14 1 bc14] 25)
            have L21b := q14.made (.cells #[.bool true, .slice ao14 1 ac14, .slice bo14 1 bc14] 25)
            replace B1 := B1.below e14
            replace B2 := B2.below e14
            replace B4 := B4.below e14
            replace B6 := B6.below e14
            replace B8 := B8.below e14
            replace B10 := B10.below e14
            replace B12 := B12.below e14
            replace B14 := B14.below e14
            replace B16 := B16.below e14
            replace B17 := B17.below e14
            replace B19 := B19.below e14
            replace L1 := L1.below e14
            replace L4a := L4a.below e14
            replace L4b := L4b.below e14
            replace L8a := L8a.below e14
            replace L8b := L8b.below e14
            replace L16 := L16.below e14
            replace hb := hb.trans (e14.mono hb.size)
            generalize w14.alloc (.cells #[.bool true, .slice ao14 1 ac14, .slice bo14 1 bc14] 25) = W14 at *
            generalize w14.heap.size = g21 at *
            clear e14 d14 p14 q14 c14 la14 lb14 x14 hs14
            as_aux_lemma =>
              go_upto_region 16 with (go_at_call 16; refine (c15 _ (hTb hb)).mono ?_; rintro e W15 ⟨rfl, d15⟩)
              replace B1 := B1.below d15
              replace B2 := B2.below d15
              replace B4 := B4.below d15
              replace B6 := B6.below d15
              replace B8 := B8.below d15
              replace B10 := B10.below d15
              replace B12 := B12.below d15
              replace B14 := B14.below d15
              replace B16 := B16.below d15
              replace B17 := B17.below d15
              replace B19 := B19.below d15
              replace B21 := B21.below d15
              replace L1 := L1.below d15
              replace L4a := L4a.below d15
              replace L4b := L4b.below d15
              replace L8a := L8a.below d15
              replace L8b := L8b.below d15
              replace L16 := L16.below d15
              replace L21a := L21a.below d15
              replace L21b := L21b.below d15
              replace hb := hb.trans (d15.mono hb.size)
              clear d15 c15
              have hmk := run_make_row' (P := Tryd.prog) 23 22 (.int .u64 0) 8 Tryd.underlying23 Tryd.infoU rfl .i64 .i64 16 (by omega) (by omega)
              obtain ⟨ao16, ac16, w16, r16, S16, b16⟩ := app_small (W15.alloc (.cells #[.int .u64 1] 22))
              have hs16 : (W15.alloc (.cells #[.int .u64 1] 22)).heap.size = W15.heap.size + 1 := by simp
              rw [hs16] at r16
              obtain ⟨MC, hMC⟩ : ∃ c, madeCells #[.int .u64 0] 16 = c := ⟨_, rfl⟩
              rw [hMC] at r16
              simp only [hMC, Int.cast_ofNat_Int] at hmk
              clear hMC
              have l16 : LS w16 (some ⟨W15.heap.size, 0, none⟩) 1 [1] := (lit1 W15 1).below b16
              have x16 := bth (bal7 W15 (.cells #[.int .u64 1] 22)) b16
              go_upto_region 17 with (first
                | (go_at_call 17; refine (c16 _ _ _ _ _ l16 S16 (hTb (hb.trans (x16.mono hb.size)))).mono ?_; rintro e W16 ⟨rfl, d16⟩; replace d16 := bth x16 d16)
                | (at_builtin; refine append7_eq r16 rfl _ _ rfl rfl rfl rfl ?_))
              replace B1 := B1.below d16
              replace B2 := B2.below d16
              replace B4 := B4.below d16
              replace B6 := B6.below d16
              replace B8 := B8.below d16
              replace B10 := B10.below d16
              replace B12 := B12.below d16
              replace B14 := B14.below d16
              replace B16 := B16.below d16
              replace B17 := B17.below d16
              replace B19 := B19.below d16
              replace B21 := B21.below d16
              replace L1 := L1.below d16
              replace L4a := L4a.below d16
              replace L4b := L4b.below d16
              replace L8a := L8a.below d16
              replace L8b := L8b.below d16
              replace L16 := L16.below d16
              replace L21a := L21a.below d16
              replace L21b := L21b.below d16
              replace hb := hb.trans (d16.mono hb.size)
              clear d16 c16 l16 S16 x16 b16 r16 hs16 hmk
              as_aux_lemma =>
                obtain ⟨y0, y1, y2, _, _, _, _, _⟩ := id B8
                go_cut [27, 28] from 29 (fun s27 s28 wx => s27 = .float .f64 9218868437227405311 ∧ s28 = .int .i64 0 ∧ Below W16.heap.size W16 wx)
                case first =>
                  go_wp2_with (go_at_call 17; refine (c17 _ _ _ _ _ L8a L8b (hTb hb)).mono ?_; rintro e W17 ⟨rfl, d17⟩)
                  go_meet
                  exact ⟨rfl, rfl, d17⟩
                obtain ⟨rfl, rfl, d17⟩ := hcut
                generalize wc = W17 at *
                clear y0 y1 y2
                replace B1 := B1.below d17
                replace B2 := B2.below d17
                replace B4 := B4.below d17
                replace B6 := B6.below d17
                replace B8 := B8.below d17
                replace B10 := B10.below d17
                replace B12 := B12.below d17
                replace B14 := B14.below d17
                replace B16 := B16.below d17
                replace B17 := B17.below d17
                replace B19 := B19.below d17
                replace B21 := B21.below d17
                replace L1 := L1.below d17
                replace L4a := L4a.below d17
                replace L4b := L4b.below d17
                replace L8a := L8a.below d17
                replace L8b := L8b.below d17
                replace L16 := L16.below d17
                replace L21a := L21a.below d17
                replace L21b := L21b.below d17
                replace hb := hb.trans (d17.mono hb.size)
                clear d17 c17
                as_aux_lemma =>
                  go_upto_region 18 with fail
                  go_cut [29] from 30 (fun s29 wx => s29 = .bool true ∧ Below W17.heap.size W17 wx)
                  case first =>
                    obtain ⟨VAL, hVAL⟩ : ∃ V : Nat → Value, V = (fun j => match j with | 0 => .agg #[.bool false, .slice none 0 0, .slice none 0 0] | 1 => .int .i64 3 | 2 => .agg #[.bool false, .slice none 0 0, .slice none 0 0] | 3 => .bool true | 4 => .bool true | 5 => .agg #[.bool false, .slice none 0 0, .slice none 0 0] | 6 => .int .i64 7 | 7 => .agg #[.bool false, .slice none 0 0, .slice none 0 0] | 8 => .bool true | 9 => .bool true | 10 => .bool true | 11 => .agg #[.bool false, .slice none 0 0, .slice none 0 0] | 12 => .int .i64 2 | 13 => .agg #[.bool false, .slice none 0 0, .slice none 0 0] | 14 => .bool true | 15 => .bool true | 16 => .bool true | 17 => .agg #[.bool false, .slice none 0 0, .slice none 0 0] | 18 => .int .i64 7 | 19 => .agg #[.bool false, .slice none 0 0, .slice none 0 0] | 20 => .bool true | 21 => .bool true | 22 => .bool true | 23 => .agg #[.bool true, .slice ao14 1 ac14, .slice bo14 1 bc14] | 24 => .int .i64 0 | 25 => undef | 26 => .bool true | 27 => .bool true | 28 => .bool true | 29 => .int .i64 2 | 30 => .bool true | 31 => .bool true | 32 => .bool true | _ => undef) := ⟨_, rfl⟩
                    have V0 : VAL 0 = .agg #[.bool false, .slice none 0 0, .slice none 0 0] := congrFun hVAL 0
                    have V1 : VAL 1 = .int .i64 3 := congrFun hVAL 1
                    have V2 : VAL 2 = .agg #[.bool false, .slice none 0 0, .slice none 0 0] := congrFun hVAL 2
                    have V3 : VAL 3 = .bool true := congrFun hVAL 3
                    have V4 : VAL 4 = .bool true := congrFun hVAL 4
                    have V5 : VAL 5 = .agg #[.bool false, .slice none 0 0, .slice none 0 0] := congrFun hVAL 5
                    have V6 : VAL 6 = .int .i64 7 := congrFun hVAL 6
                    have V7 : VAL 7 = .agg #[.bool false, .slice none 0 0, .slice none 0 0] := congrFun hVAL 7
                    have V8 : VAL 8 = .bool true := congrFun hVAL 8
                    have V9 : VAL 9 = .bool true := congrFun hVAL 9
                    have V10 : VAL 10 = .bool true := congrFun hVAL 10
                    have V11 : VAL 11 = .agg #[.bool false, .slice none 0 0, .slice none 0 0] := congrFun hVAL 11
                    have V12 : VAL 12 = .int .i64 2 := congrFun hVAL 12
                    have V13 : VAL 13 = .agg #[.bool false, .slice none 0 0, .slice none 0 0] := congrFun hVAL 13
                    have V14 : VAL 14 = .bool true := congrFun hVAL 14
                    have V15 : VAL 15 = .bool true := congrFun hVAL 15
                    have V16 : VAL 16 = .bool true := congrFun hVAL 16
                    have V17 : VAL 17 = .agg #[.bool false, .slice none 0 0, .slice none 0 0] := congrFun hVAL 17
                    have V18 : VAL 18 = .int .i64 7 := congrFun hVAL 18
                    have V19 : VAL 19 = .agg #[.bool false, .slice none 0 0, .slice none 0 0] := congrFun hVAL 19
                    have V20 : VAL 20 = .bool true := congrFun hVAL 20
                    have V21 : VAL 21 = .bool true := congrFun hVAL 21
                    have V22 : VAL 22 = .bool true := congrFun hVAL 22
                    have V23 : VAL 23 = .agg #[.bool true, .slice ao14 1 ac14, .slice bo14 1 bc14] := congrFun hVAL 23
                    have V24 : VAL 24 = .int .i64 0 := congrFun hVAL 24
                    have V25 : VAL 25 = undef := congrFun hVAL 25
                    have V26 : VAL 26 = .bool true := congrFun hVAL 26
                    have V27 : VAL 27 = .bool true := congrFun hVAL 27
                    have V28 : VAL 28 = .bool true := congrFun hVAL 28
                    have V29 : VAL 29 = .int .i64 2 := congrFun hVAL 29
                    have V30 : VAL 30 = .bool true := congrFun hVAL 30
                    have V31 : VAL 31 = .bool true := congrFun hVAL 31
                    have V32 : VAL 32 = .bool true := congrFun hVAL 32
                    have M0 : Below W17.heap.size W17 W17.drew := (Below.refl _ _).drew
                    have hM : ∀ w1 w2, Below W17.heap.size W17 w1 → Below w1.heap.size w1 w2 → Below W17.heap.size W17 w2 := fun _ _ h1 h2 => bth h1 h2
                    have hP : ∀ u w1 w2, Small32 u w1 → Below w1.heap.size w1 w2 → Small32 u w2 := fun _ _ _ h1 h2 => h1.below h2
                    clear hVAL
                    refine region_rgV (by kernel_rfl) (fun v => ⟨#[.bool false, .pointer (some ⟨g1, 0, none⟩), .pointer (some ⟨g2, 0, none⟩), .int .i64 5, .pointer (some ⟨g4, 0, none⟩), .int .i64 0, .pointer (some ⟨g6, 0, none⟩), .int .i64 3, .pointer (some ⟨g8, 0, none⟩), .int .i64 0, .pointer (some ⟨g10, 0, none⟩), .int .i64 3, .pointer (some ⟨g12, 0, none⟩), .int .i64 3, .pointer (some ⟨g14, 0, none⟩), .int .i64 7, .pointer (some ⟨g16, 0, none⟩), .pointer (some ⟨g17, 0, none⟩), .int .i64 2, .pointer (some ⟨g19, 0, none⟩), .int .i64 7, .pointer (some ⟨g21, 0, none⟩), .int .i64 0, .int .i64 0, .int .i64 2, .float .f64 9223372036854775808, .int .i64 0, .float .f64 9218868437227405311, .int .i64 0, v 32, u30, u31, u32, u33, u34, u35, u36, u37, u38, u39, u40, u41, u42, u43, u44, u45, u46, u47, u48, u49, u50, u51, u52, u53, u54, u55, u56, u57, u58, u59, u60, u61, u62, u63, u64, u65, u66, u67, u68, u69, u70, u71, u72, u73, u74, u75, u76, u77, u78, u79, u80, u81, u82, u83, u84, u85, u86, u87, u88, u89, u90, u91, u92, u93, u94, u95, u96, u97, u98, u99, u100, u101, u102, u103, u104, u105, u106, u107, u108, u109, u110, u111, u112, u113, u114, u115, u116, u117, u118, u119, u120, u121, u122, u123, u124, u125, u126, u127, u128, u129, u130, u131, u132, u133, u134, u135, u136, u137, u138, u139, u140, u141, u142, u143, u144, u145, u146, u147, u148, u149, u150, u151, u152, u153, u154, u155, u156, v 0, v 1, v 2, v 3, v 4, v 5, v 6, v 7, v 8, v 9, v 10, v 11, v 12, v 13, v 14, v 15, v 16, v 17, v 18, v 19, v 20, v 21, v 22, v 23, v 24, v 25, v 26, v 27, v 28, v 29, v 30, v 31, u189, u190, u191, u192, u193, u194, u195, u196, u197, u198, u199, u200, u201, u202, u203, u204, u205, u206, u207, u208, u209, u210, u211, u212, u213, u214, u215, u216, u217, u218, u219, u220, u221, u222, u223, u224, u225, u226, u227, u228, u229, u230, u231], []⟩) (Below W17.heap.size W17) 25 Small32 VAL (fun j => match j with | 0 => u157 | 1 => u158 | 2 => u159 | 3 => u160 | 4 => u161 | 5 => u162 | 6 => u163 | 7 => u164 | 8 => u165 | 9 => u166 | 10 => u167 | 11 => u168 | 12 => u169 | 13 => u170 | 14 => u171 | 15 => u172 | 16 => u173 | 17 => u174 | 18 => u175 | 19 => u176 | 20 => u177 | 21 => u178 | 22 => u179 | 23 => u180 | 24 => u181 | 25 => u182 | 26 => u183 | 27 => u184 | 28 => u185 | 29 => u186 | 30 => u187 | 31 => u188 | _ => u29) rfl M0 ?_ ?_
                    · intro L v w' i hL hS hi
                      obtain ⟨h1, h2, h3⟩ := mem_ready hi
                      have h1 : i < 33 := h1
                      try dsimp only
                      have m := hS.m
                      have hcs : i = 0 ∨ i = 1 ∨ i = 2 ∨ i = 3 ∨ i = 4 ∨ i = 5 ∨ i = 6 ∨ i = 7 ∨ i = 8 ∨ i = 9 ∨ i = 10 ∨ i = 11 ∨ i = 12 ∨ i = 13 ∨ i = 14 ∨ i = 15 ∨ i = 16 ∨ i = 17 ∨ i = 18 ∨ i = 19 ∨ i = 20 ∨ i = 21 ∨ i = 22 ∨ i = 23 ∨ i = 24 ∨ i = 25 ∨ i = 26 ∨ i = 27 ∨ i = 28 ∨ i = 29 ∨ i = 30 ∨ i = 31 ∨ i = 32 := by omega
                      rcases hcs with rfl | rfl | rfl | rfl | rfl | rfl | rfl | rfl | rfl | rfl | rfl | rfl | rfl | rfl | rfl | rfl | rfl | rfl | rfl | rfl | rfl | rfl | rfl | rfl | rfl | rfl | rfl | rfl | rfl | rfl | rfl | rfl | rfl
                      · obtain ⟨q0, q1, q2, _, _, _, _, _⟩ := B12.below m
                        refine wpOp_of (fun K hK => ?_)
                        unfold wpOp
                        go_simp
                        refine Or.inl ?_
                        exact hK _ _ ⟨put9 v 0 (.agg #[.bool false, .slice none 0 0, .slice none 0 0]), (by simp [put9]), hS.step hM hP hL hi (by decide) (Below.refl _ _) V0.symm⟩
                      · refine wpOp_of (fun K hK => ?_)
                        unfold wpOp
                        go_simp
                        refine Or.inl ?_
                        exact hK _ _ ⟨put9 v 1 (.int .i64 3), (by simp [put9]), hS.step hM hP hL hi (by decide) (Below.refl _ _) V1.symm⟩
                      · refine wpOp_of (fun K hK => ?_)
                        unfold wpOp
                        go_simp
                        refine Or.inl ?_
                        exact hK _ _ ⟨put9 v 2 (.agg #[.bool false, .slice none 0 0, .slice none 0 0]), (by simp [put9]), hS.step hM hP hL hi (by decide) (Below.refl _ _) V2.symm⟩
                      · have e0 : v 0 = .agg #[.bool false, .slice none 0 0, .slice none 0 0] := (hS.d 0 (by decide) (ready_dep hi 0 (by kernel_rfl))).trans V0
                        have e1 : v 1 = .int .i64 3 := (hS.d 1 (by decide) (ready_dep hi 1 (by kernel_rfl))).trans V1
                        have e2 : v 2 = .agg #[.bool false, .slice none 0 0, .slice none 0 0] := (hS.d 2 (by decide) (ready_dep hi 2 (by kernel_rfl))).trans V2
                        refine wpOp_of (fun K hK => ?_)
                        unfold wpOp
                        simp only [e0, e1, e2]
                        go_simp
                        refine Or.inl ?_
                        refine (isN_any 3 _).mono ?_
                        rintro e w1 ⟨rfl, bc⟩
                        exact hK _ _ ⟨put9 v 3 (.bool true), (by simp [put9, e0, e1, e2]), hS.step hM hP hL hi (by decide) bc V3.symm⟩
                      · have e3 : v 3 = .bool true := (hS.d 3 (by decide) (ready_dep hi 3 (by kernel_rfl))).trans V3
                        refine wpOp_of (fun K hK => ?_)
                        unfold wpOp
                        simp only [e3]
                        go_simp
                        refine Or.inl ?_
                        exact hK _ _ ⟨put9 v 4 (.bool true), (by simp [put9, e3]), hS.step hM hP hL hi (by decide) (Below.refl _ _) V4.symm⟩
                      · have e4 : v 4 = .bool true := (hS.d 4 (by decide) (ready_dep hi 4 (by kernel_rfl))).trans V4
                        obtain ⟨q0, q1, q2, _, _, _, _, _⟩ := B14.below m
                        refine wpOp_of (fun K hK => ?_)
                        unfold wpOp
                        simp only [e4]
                        go_simp
                        refine Or.inl ?_
                        exact hK _ _ ⟨put9 v 5 (.agg #[.bool false, .slice none 0 0, .slice none 0 0]), (by simp [put9, e4]), hS.step hM hP hL hi (by decide) (Below.refl _ _) V5.symm⟩
                      · have e4 : v 4 = .bool true := (hS.d 4 (by decide) (ready_dep hi 4 (by kernel_rfl))).trans V4
                        refine wpOp_of (fun K hK => ?_)
                        unfold wpOp
                        simp only [e4]
                        go_simp
                        refine Or.inl ?_
                        exact hK _ _ ⟨put9 v 6 (.int .i64 7), (by simp [put9, e4]), hS.step hM hP hL hi (by decide) (Below.refl _ _) V6.symm⟩
                      · have e4 : v 4 = .bool true := (hS.d 4 (by decide) (ready_dep hi 4 (by kernel_rfl))).trans V4
                        refine wpOp_of (fun K hK => ?_)
                        unfold wpOp
                        simp only [e4]
                        go_simp
                        refine Or.inl ?_
                        exact hK _ _ ⟨put9 v 7 (.agg #[.bool false, .slice none 0 0, .slice none 0 0]), (by simp [put9, e4]), hS.step hM hP hL hi (by decide) (Below.refl _ _) V7.symm⟩
                      · have e4 : v 4 = .bool true := (hS.d 4 (by decide) (ready_dep hi 4 (by kernel_rfl))).trans V4
                        have e5 : v 5 = .agg #[.bool false, .slice none 0 0, .slice none 0 0] := (hS.d 5 (by decide) (ready_dep hi 5 (by kernel_rfl))).trans V5
                        have e6 : v 6 = .int .i64 7 := (hS.d 6 (by decide) (ready_dep hi 6 (by kernel_rfl))).trans V6
                        have e7 : v 7 = .agg #[.bool false, .slice none 0 0, .slice none 0 0] := (hS.d 7 (by decide) (ready_dep hi 7 (by kernel_rfl))).trans V7
                        refine wpOp_of (fun K hK => ?_)
                        unfold wpOp
                        simp only [e4, e5, e6, e7]
                        go_simp
                        refine Or.inl ?_
                        refine (isN_any 7 _).mono ?_
                        rintro e w1 ⟨rfl, bc⟩
                        exact hK _ _ ⟨put9 v 8 (.bool true), (by simp [put9, e4, e5, e6, e7]), hS.step hM hP hL hi (by decide) bc V8.symm⟩
                      · have e4 : v 4 = .bool true := (hS.d 4 (by decide) (ready_dep hi 4 (by kernel_rfl))).trans V4
                        have e8 : v 8 = .bool true := (hS.d 8 (by decide) (ready_dep hi 8 (by kernel_rfl))).trans V8
                        refine wpOp_of (fun K hK => ?_)
                        unfold wpOp
                        simp only [e4, e8]
                        go_simp
                        refine Or.inl ?_
                        exact hK _ _ ⟨put9 v 9 (.bool true), (by simp [put9, e4, e8]), hS.step hM hP hL hi (by decide) (Below.refl _ _) V9.symm⟩
                      · have e9 : v 9 = .bool true := (hS.d 9 (by decide) (ready_dep hi 9 (by kernel_rfl))).trans V9
                        refine wpOp_of (fun K hK => ?_)
                        unfold wpOp
                        simp only [e9]
                        go_simp
                        refine Or.inl ?_
                        exact hK _ _ ⟨put9 v 10 (.bool true), (by simp [put9, e9]), hS.step hM hP hL hi (by decide) (Below.refl _ _) V10.symm⟩
                      · have e10 : v 10 = .bool true := (hS.d 10 (by decide) (ready_dep hi 10 (by kernel_rfl))).trans V10
                        obtain ⟨q0, q1, q2, _, _, _, _, _⟩ := B17.below m
                        refine wpOp_of (fun K hK => ?_)
                        unfold wpOp
                        simp only [e10]
                        go_simp
                        refine Or.inl ?_
                        exact hK _ _ ⟨put9 v 11 (.agg #[.bool false, .slice none 0 0, .slice none 0 0]), (by simp [put9, e10]), hS.step hM hP hL hi (by decide) (Below.refl _ _) V11.symm⟩
                      · have e10 : v 10 = .bool true := (hS.d 10 (by decide) (ready_dep hi 10 (by kernel_rfl))).trans V10
                        refine wpOp_of (fun K hK => ?_)
                        unfold wpOp
                        simp only [e10]
                        go_simp
                        refine Or.inl ?_
                        exact hK _ _ ⟨put9 v 12 (.int .i64 2), (by simp [put9, e10]), hS.step hM hP hL hi (by decide) (Below.refl _ _) V12.symm⟩
                      · have e10 : v 10 = .bool true := (hS.d 10 (by decide) (ready_dep hi 10 (by kernel_rfl))).trans V10
                        refine wpOp_of (fun K hK => ?_)
                        unfold wpOp
                        simp only [e10]
                        go_simp
                        refine Or.inl ?_
                        exact hK _ _ ⟨put9 v 13 (.agg #[.bool false, .slice none 0 0, .slice none 0 0]), (by simp [put9, e10]), hS.step hM hP hL hi (by decide) (Below.refl _ _) V13.symm⟩
                      · have e10 : v 10 = .bool true := (hS.d 10 (by decide) (ready_dep hi 10 (by kernel_rfl))).trans V10
                        have e11 : v 11 = .agg #[.bool false, .slice none 0 0, .slice none 0 0] := (hS.d 11 (by decide) (ready_dep hi 11 (by kernel_rfl))).trans V11
                        have e12 : v 12 = .int .i64 2 := (hS.d 12 (by decide) (ready_dep hi 12 (by kernel_rfl))).trans V12
                        have e13 : v 13 = .agg #[.bool false, .slice none 0 0, .slice none 0 0] := (hS.d 13 (by decide) (ready_dep hi 13 (by kernel_rfl))).trans V13
                        refine wpOp_of (fun K hK => ?_)
                        unfold wpOp
                        simp only [e10, e11, e12, e13]
                        go_simp
                        refine Or.inl ?_
                        refine (isN_any 2 _).mono ?_
                        rintro e w1 ⟨rfl, bc⟩
                        exact hK _ _ ⟨put9 v 14 (.bool true), (by simp [put9, e10, e11, e12, e13]), hS.step hM hP hL hi (by decide) bc V14.symm⟩
                      · have e10 : v 10 = .bool true := (hS.d 10 (by decide) (ready_dep hi 10 (by kernel_rfl))).trans V10
                        have e14 : v 14 = .bool true := (hS.d 14 (by decide) (ready_dep hi 14 (by kernel_rfl))).trans V14
                        refine wpOp_of (fun K hK => ?_)
                        unfold wpOp
                        simp only [e10, e14]
                        go_simp
                        refine Or.inl ?_
                        exact hK _ _ ⟨put9 v 15 (.bool true), (by simp [put9, e10, e14]), hS.step hM hP hL hi (by decide) (Below.refl _ _) V15.symm⟩
                      · have e15 : v 15 = .bool true := (hS.d 15 (by decide) (ready_dep hi 15 (by kernel_rfl))).trans V15
                        refine wpOp_of (fun K hK => ?_)
                        unfold wpOp
                        simp only [e15]
                        go_simp
                        refine Or.inl ?_
                        exact hK _ _ ⟨put9 v 16 (.bool true), (by simp [put9, e15]), hS.step hM hP hL hi (by decide) (Below.refl _ _) V16.symm⟩
                      · have e16 : v 16 = .bool true := (hS.d 16 (by decide) (ready_dep hi 16 (by kernel_rfl))).trans V16
                        obtain ⟨q0, q1, q2, _, _, _, _, _⟩ := B19.below m
                        refine wpOp_of (fun K hK => ?_)
                        unfold wpOp
                        simp only [e16]
                        go_simp
                        refine Or.inl ?_
                        exact hK _ _ ⟨put9 v 17 (.agg #[.bool false, .slice none 0 0, .slice none 0 0]), (by simp [put9, e16]), hS.step hM hP hL hi (by decide) (Below.refl _ _) V17.symm⟩
                      · have e16 : v 16 = .bool true := (hS.d 16 (by decide) (ready_dep hi 16 (by kernel_rfl))).trans V16
                        refine wpOp_of (fun K hK => ?_)
                        unfold wpOp
                        simp only [e16]
                        go_simp
                        refine Or.inl ?_
                        exact hK _ _ ⟨put9 v 18 (.int .i64 7), (by simp [put9, e16]), hS.step hM hP hL hi (by decide) (Below.refl _ _) V18.symm⟩
                      · have e16 : v 16 = .bool true := (hS.d 16 (by decide) (ready_dep hi 16 (by kernel_rfl))).trans V16
                        refine wpOp_of (fun K hK => ?_)
                        unfold wpOp
                        simp only [e16]
                        go_simp
                        refine Or.inl ?_
                        exact hK _ _ ⟨put9 v 19 (.agg #[.bool false, .slice none 0 0, .slice none 0 0]), (by simp [put9, e16]), hS.step hM hP hL hi (by decide) (Below.refl _ _) V19.symm⟩
                      · have e16 : v 16 = .bool true := (hS.d 16 (by decide) (ready_dep hi 16 (by kernel_rfl))).trans V16
                        have e17 : v 17 = .agg #[.bool false, .slice none 0 0, .slice none 0 0] := (hS.d 17 (by decide) (ready_dep hi 17 (by kernel_rfl))).trans V17
                        have e18 : v 18 = .int .i64 7 := (hS.d 18 (by decide) (ready_dep hi 18 (by kernel_rfl))).trans V18
                        have e19 : v 19 = .agg #[.bool false, .slice none 0 0, .slice none 0 0] := (hS.d 19 (by decide) (ready_dep hi 19 (by kernel_rfl))).trans V19
                        refine wpOp_of (fun K hK => ?_)
                        unfold wpOp
                        simp only [e16, e17, e18, e19]
                        go_simp
                        refine Or.inl ?_
                        refine (isN_any 7 _).mono ?_
                        rintro e w1 ⟨rfl, bc⟩
                        exact hK _ _ ⟨put9 v 20 (.bool true), (by simp [put9, e16, e17, e18, e19]), hS.step hM hP hL hi (by decide) bc V20.symm⟩
                      · have e16 : v 16 = .bool true := (hS.d 16 (by decide) (ready_dep hi 16 (by kernel_rfl))).trans V16
                        have e20 : v 20 = .bool true := (hS.d 20 (by decide) (ready_dep hi 20 (by kernel_rfl))).trans V20
                        refine wpOp_of (fun K hK => ?_)
                        unfold wpOp
                        simp only [e16, e20]
                        go_simp
                        refine Or.inl ?_
                        exact hK _ _ ⟨put9 v 21 (.bool true), (by simp [put9, e16, e20]), hS.step hM hP hL hi (by decide) (Below.refl _ _) V21.symm⟩
                      · have e21 : v 21 = .bool true := (hS.d 21 (by decide) (ready_dep hi 21 (by kernel_rfl))).trans V21
                        refine wpOp_of (fun K hK => ?_)
                        unfold wpOp
                        simp only [e21]
                        go_simp
                        refine Or.inl ?_
                        exact hK _ _ ⟨put9 v 22 (.bool true), (by simp [put9, e21]), hS.step hM hP hL hi (by decide) (Below.refl _ _) V22.symm⟩
                      · have e22 : v 22 = .bool true := (hS.d 22 (by decide) (ready_dep hi 22 (by kernel_rfl))).trans V22
                        obtain ⟨q0, q1, q2, _, _, _, _, _⟩ := B21.below m
                        refine wpOp_of (fun K hK => ?_)
                        unfold wpOp
                        simp only [e22]
                        go_simp
                        refine Or.inl ?_
                        exact hK _ _ ⟨put9 v 23 (.agg #[.bool true, .slice ao14 1 ac14, .slice bo14 1 bc14]), (by simp [put9, e22]), hS.step hM hP hL hi (by decide) (Below.refl _ _) V23.symm⟩
                      · have e22 : v 22 = .bool true := (hS.d 22 (by decide) (ready_dep hi 22 (by kernel_rfl))).trans V22
                        refine wpOp_of (fun K hK => ?_)
                        unfold wpOp
                        simp only [e22]
                        go_simp
                        refine Or.inl ?_
                        exact hK _ _ ⟨put9 v 24 (.int .i64 0), (by simp [put9, e22]), hS.step hM hP hL hi (by decide) (Below.refl _ _) V24.symm⟩
                      · have e22 : v 22 = .bool true := (hS.d 22 (by decide) (ready_dep hi 22 (by kernel_rfl))).trans V22
                        refine wpOp_of (fun K hK => ?_)
                        unfold wpOp
                        simp only [e22]
                        go_simp
                        refine Or.inl ?_
                        refine (s32 _).mono ?_
                        rintro e w1 ⟨ao5, ac5, bo5, bc5, rfl, x5, z5, bc⟩
                        exact hK _ _ ⟨put9 v 25 (.agg #[.bool true, .slice ao5 1 ac5, .slice bo5 1 bc5]), (by simp [put9, e22]), hS.tell hM hL hi bc ⟨ao5, ac5, bo5, bc5, rfl, x5, z5⟩⟩
                      · have e22 : v 22 = .bool true := (hS.d 22 (by decide) (ready_dep hi 22 (by kernel_rfl))).trans V22
                        have e23 : v 23 = .agg #[.bool true, .slice ao14 1 ac14, .slice bo14 1 bc14] := (hS.d 23 (by decide) (ready_dep hi 23 (by kernel_rfl))).trans V23
                        have e24 : v 24 = .int .i64 0 := (hS.d 24 (by decide) (ready_dep hi 24 (by kernel_rfl))).trans V24
                        obtain ⟨ao5, ac5, bo5, bc5, e25, x5, z5⟩ := hS.p (ready_dep hi 25 (by kernel_rfl))
                        refine wpOp_of (fun K hK => ?_)
                        unfold wpOp
                        simp only [e22, e23, e24, e25]
                        go_simp
                        refine Or.inl ?_
                        refine (i32 _ _ _ _ _ _ _ _ _ (L21a.1.below m) (L21b.1.below m) x5.1 z5.1).mono ?_
                        rintro e w1 ⟨rfl, bc⟩
                        exact hK _ _ ⟨put9 v 26 (.bool true), (by simp [put9, e22, e23, e24, e25]), hS.step hM hP hL hi (by decide) bc V26.symm⟩
                      · have e22 : v 22 = .bool true := (hS.d 22 (by decide) (ready_dep hi 22 (by kernel_rfl))).trans V22
                        have e26 : v 26 = .bool true := (hS.d 26 (by decide) (ready_dep hi 26 (by kernel_rfl))).trans V26
                        refine wpOp_of (fun K hK => ?_)
                        unfold wpOp
                        simp only [e22, e26]
                        go_simp
                        refine Or.inl ?_
                        exact hK _ _ ⟨put9 v 27 (.bool true), (by simp [put9, e22, e26]), hS.step hM hP hL hi (by decide) (Below.refl _ _) V27.symm⟩
                      · have e27 : v 27 = .bool true := (hS.d 27 (by decide) (ready_dep hi 27 (by kernel_rfl))).trans V27
                        refine wpOp_of (fun K hK => ?_)
                        unfold wpOp
                        simp only [e27]
                        go_simp
                        refine Or.inl ?_
                        exact hK _ _ ⟨put9 v 28 (.bool true), (by simp [put9, e27]), hS.step hM hP hL hi (by decide) (Below.refl _ _) V28.symm⟩
                      · have e28 : v 28 = .bool true := (hS.d 28 (by decide) (ready_dep hi 28 (by kernel_rfl))).trans V28
                        refine wpOp_of (fun K hK => ?_)
                        unfold wpOp
                        simp only [e28]
                        go_simp
                        refine Or.inl ?_
                        exact hK _ _ ⟨put9 v 29 (.int .i64 2), (by simp [put9, e28]), hS.step hM hP hL hi (by decide) (Below.refl _ _) V29.symm⟩
                      · have e28 : v 28 = .bool true := (hS.d 28 (by decide) (ready_dep hi 28 (by kernel_rfl))).trans V28
                        have e29 : v 29 = .int .i64 2 := (hS.d 29 (by decide) (ready_dep hi 29 (by kernel_rfl))).trans V29
                        refine wpOp_of (fun K hK => ?_)
                        unfold wpOp
                        simp only [e28, e29]
                        go_simp
                        refine Or.inl ?_
                        exact hK _ _ ⟨put9 v 30 (.bool true), (by simp [put9, e28, e29]), hS.step hM hP hL hi (by decide) (Below.refl _ _) V30.symm⟩
                      · have e28 : v 28 = .bool true := (hS.d 28 (by decide) (ready_dep hi 28 (by kernel_rfl))).trans V28
                        have e30 : v 30 = .bool true := (hS.d 30 (by decide) (ready_dep hi 30 (by kernel_rfl))).trans V30
                        refine wpOp_of (fun K hK => ?_)
                        unfold wpOp
                        simp only [e28, e30]
                        go_simp
                        refine Or.inl ?_
                        exact hK _ _ ⟨put9 v 31 (.bool true), (by simp [put9, e28, e30]), hS.step hM hP hL hi (by decide) (Below.refl _ _) V31.symm⟩
                      · have e31 : v 31 = .bool true := (hS.d 31 (by decide) (ready_dep hi 31 (by kernel_rfl))).trans V31
                        refine wpOp_of (fun K hK => ?_)
                        unfold wpOp
                        simp only [e31]
                        go_simp
                        refine Or.inl ?_
                        exact hK _ _ ⟨put9 v 32 (.bool true), (by simp [put9, e31]), hS.step hM hP hL hi (by decide) (Below.refl _ _) V32.symm⟩
                    · intro L v w' hL hS hr
                      have on := all_done hL hr (by kernel_rfl)
                      have m := hS.m
                      have e32 := (hS.d 32 (by decide) (on 32 (by decide))).trans V32
                      try dsimp only
                      rw [e32]
                      go_wp2
                      go_meet
                      exact ⟨rfl, m⟩
                  obtain ⟨rfl, d18⟩ := hcut
                  clear i32 s32
                  replace B1 := B1.below d18
                  replace B2 := B2.below d18
                  replace B4 := B4.below d18
                  replace B6 := B6.below d18
                  replace B8 := B8.below d18
                  replace B10 := B10.below d18
                  replace B12 := B12.below d18
                  replace B14 := B14.below d18
                  replace B16 := B16.below d18
                  replace B17 := B17.below d18
                  replace B19 := B19.below d18
                  replace B21 := B21.below d18
                  replace L1 := L1.below d18
                  replace L4a := L4a.below d18
                  replace L4b := L4b.below d18
                  replace L8a := L8a.below d18
                  replace L8b := L8b.below d18
                  replace L16 := L16.below d18
                  replace L21a := L21a.below d18
                  replace L21b := L21b.below d18
                  replace hb := hb.trans (d18.mono hb.size)
                  clear d18 
                  as_aux_lemma =>
                    go_upto_region 19 with fail
                    generalize wc = W18 at *
                    go_cut [30] from 31 (fun s30 wx => s30 = .bool true ∧ Below W18.heap.size W18 wx)
                    case first =>
                      have hne : Nonempty (LO7 W18) := LO7.any _
                      have sf := fun W => samef_any 9223372036854775808 9223372036854775808 (by omega) (by omega) W
                      have esf : sameB 9223372036854775808 9223372036854775808 = true := by kernel_rfl
                      simp only [esf] at sf
                      clear esf
                      have hfe : (FloatKind.f64.format.order 9218868437227405311 9218868437227405311 == some .eq) = true := by kernel_rfl
                      refine region_plain7 (fun O hO => ?_)
                      repeat (quiet_step (first
                        | (go_at_call 9; exact later7s (ru_cpy _))
                        | (go_at_call 18; exact later7s (sf _))))
                      refine wpQuiet_nil ?_
                      rintro wd ⟨u7, rfl⟩
                      have d7 := u7.below
                      go_wp2
                      go_meet
                      exact ⟨rfl, d7⟩
                    obtain ⟨rfl, d19⟩ := hcut
                    generalize wc = W19 at *
                    replace B1 := B1.below d19
                    replace B2 := B2.below d19
                    replace B4 := B4.below d19
                    replace B6 := B6.below d19
                    replace B8 := B8.below d19
                    replace B10 := B10.below d19
                    replace B12 := B12.below d19
                    replace B14 := B14.below d19
                    replace B16 := B16.below d19
                    replace B17 := B17.below d19
                    replace B19 := B19.below d19
                    replace B21 := B21.below d19
                    replace L1 := L1.below d19
                    replace L4a := L4a.below d19
                    replace L4b := L4b.below d19
                    replace L8a := L8a.below d19
                    replace L8b := L8b.below d19
                    replace L16 := L16.below d19
                    replace L21a := L21a.below d19
                    replace L21b := L21b.below d19
                    replace hb := hb.trans (d19.mono hb.size)
                    clear d19 
                    as_aux_lemma =>
                      have cInt := fun W => rint_any (-9223372036854775808) (by omega) (by omega) W
                      have e1 : (decide ((-9223372036854775808 : Int) < 0)) = true := by decide
                      have sM := fun W => small_any true 9223372036854775808 1 (by omega) (by omega) (by omega) (by omega) W
                      have s24 := fun W => small_any false 2 4 (by omega) (by omega) (by omega) (by omega) W
                      have cR24 := fun ao bo ac bc W h1 h2 hW => rright_any false (lo 2) (lo 4) ao bo ac bc W h1 h2 (lo_lm _) (lo_lm _) hW
                      have cRb := fun ao bo ac bc W h1 h2 hW => rright_any true [] [1] ao bo ac bc W h1 h2 (fun x hx => by cases hx) (one_lm (by omega)) hW
                      have cRz := fun ao bo ac bc W h1 h2 hW => rright_any false [] [1] ao bo ac bc W h1 h2 (fun x hx => by cases hx) (one_lm (by omega)) hW
                      have cS := fun ao1 bo1 ao2 bo2 ac1 bc1 ac2 bc2 W a1 b1 a2 b2 => sameR_any true true 9223372036854775808 1 9223372036854775808 1 ao1 bo1 ao2 bo2 ac1 bc1 ac2 bc2 W a1 b1 a2 b2 (by decide) (by decide)
                      have eS : smB true true 9223372036854775808 1 9223372036854775808 1 = true := by kernel_rfl
                      have nM : nl 9223372036854775808 = 1 := by kernel_rfl
                      have lM : lo 9223372036854775808 = [9223372036854775808] := by kernel_rfl
                      have l2 : (lo 2).length = 1 := by kernel_rfl
                      have l4 : (lo 4).length = 1 := by kernel_rfl
                      have n2 : nl 2 = 1 := by kernel_rfl
                      have n4 : nl 4 = 1 := by kernel_rfl
                      simp only [ru_24, ru_bad, ru_01, eS, l2, l4, List.length_nil, List.length_cons, Nat.zero_add] at cR24 cRb cRz cS
                      unfold GaveI at cInt sM s24
                      have ea : (-9223372036854775808 : Int).natAbs = 9223372036854775808 := rfl
                      simp only [e1, ea] at cInt
                      simp only [nl_v1, lo_v1, nM, lM, n2, n4] at cInt sM s24 cS
                      clear eS nM lM l2 l4 n2 n4
                      generalize lo 2 = lo2 at *
                      generalize lo 4 = lo4 at *
                      clear e1 ea
                      go_upto_region 20 with fail
                      have caw := rawake_any
                      refine region_list7 (fun O hO => ?_)
                      refine wpList_step (fun K hK => ?_)
                      go_simp
                      refine hK _ _ ?_
                      clear hK K
                      refine wpList_step (fun K hK => ?_)
                      go_simp
                      refine hK _ _ ?_
                      clear hK K
                      refine wpList_step (fun K hK => ?_)
                      go_simp
                      refine hK _ _ ?_
                      clear hK K
                      refine wpList_step (fun K hK => ?_)
                      go_simp
                      refine hK _ _ ?_
                      clear hK K
                      refine wpList_step (fun K hK => ?_)
                      go_simp
                      refine hK _ _ ?_
                      clear hK K
                      refine wpList_step (fun K hK => ?_)
                      go_simp
                      refine (cInt _).mono ?_
                      rintro e w1 ⟨ao1, ac1, bo1, bc1, rfl, p1, q1, b1⟩
                      refine hK _ _ ?_
                      clear hK K
                      refine wpList_step (fun K hK => ?_)
                      go_simp
                      refine (sM _).mono ?_
                      rintro e w2 ⟨ao2, ac2, bo2, bc2, rfl, p2, q2, d2⟩
                      have b2 := bth b1 d2
                      refine hK _ _ ?_
                      clear hK K
                      refine wpList_step (fun K hK => ?_)
                      go_simp
                      refine (cS _ _ _ _ _ _ _ _ _ (p1.below d2).1 (q1.below d2).1 p2.1 q2.1).mono ?_
                      rintro e w3 ⟨rfl, d3⟩
                      have b3 := bth b2 d3
                      refine hK _ _ ?_
                      clear hK K
                      refine wpList_step (fun K hK => ?_)
                      go_simp
                      refine hK _ _ ?_
                      clear hK K
                      refine wpList_step (fun K hK => ?_)
                      go_simp
                      refine hK _ _ ?_
                      clear hK K
                      refine wpList_step (fun K hK => ?_)
                      go_simp
                      refine (s24 _).mono ?_
                      rintro e w4 ⟨ao4, ac4, bo4, bc4, rfl, p4, q4, d4⟩
                      have b4 := bth b3 d4
                      refine hK _ _ ?_
                      clear hK K
                      refine wpList_step (fun K hK => ?_)
                      go_simp
                      refine (cR24 _ _ _ _ _ p4.1 q4.1 (hTb (hb.trans (b4.mono hb.size)))).mono ?_
                      rintro e w5 ⟨rfl, d5⟩
                      have b5 := bth b4 d5
                      obtain ⟨y0, y1, y2, _, _, _, _, _⟩ := B16.below b5
                      refine hK _ _ ?_
                      clear hK K
                      refine wpList_step (fun K hK => ?_)
                      go_simp
                      refine hK _ _ ?_
                      clear hK K
                      refine wpList_step (fun K hK => ?_)
                      go_simp
                      refine hK _ _ ?_
                      clear hK K
                      refine wpList_step (fun K hK => ?_)
                      go_simp
                      refine hK _ _ ?_
                      clear hK K
                      refine wpList_step (fun K hK => ?_)
                      go_simp
                      refine hK _ _ ?_
                      clear hK K
                      refine wpList_step (fun K hK => ?_)
                      go_simp
                      refine (cRb _ _ _ _ _ (nilrow _) (L16.below b5).1 (hTb (hb.trans (b5.mono hb.size)))).mono ?_
                      rintro e w6 ⟨rfl, d6⟩
                      have b6 := bth b5 d6
                      obtain ⟨z0, z1, z2, _, _, _, _, _⟩ := B1.below b6
                      refine hK _ _ ?_
                      clear hK K
                      refine wpList_step (fun K hK => ?_)
                      go_simp
                      refine hK _ _ ?_
                      clear hK K
                      refine wpList_step (fun K hK => ?_)
                      go_simp
                      refine hK _ _ ?_
                      clear hK K
                      refine wpList_step (fun K hK => ?_)
                      go_simp
                      refine hK _ _ ?_
                      clear hK K
                      refine wpList_step (fun K hK => ?_)
                      go_simp
                      refine hK _ _ ?_
                      clear hK K
                      refine wpList_step (fun K hK => ?_)
                      go_simp
                      refine (cRz _ _ _ _ _ (nilrow _) (L1.below b6).1 (hTb (hb.trans (b6.mono hb.size)))).mono ?_
                      rintro e w7 ⟨rfl, d7⟩
                      have b7 := bth b6 d7
                      refine hK _ _ ?_
                      clear hK K
                      refine wpList_step (fun K hK => ?_)
                      go_simp
                      refine hK _ _ ?_
                      clear hK K
                      refine wpList_step (fun K hK => ?_)
                      go_simp
                      refine hK _ _ ?_
                      clear hK K
                      refine wpList_step (fun K hK => ?_)
                      go_simp
                      refine hK _ _ ?_
                      clear hK K
                      refine wpList_step (fun K hK => ?_)
                      go_simp
                      refine hK _ _ ?_
                      clear hK K
                      refine wpList_step (fun K hK => ?_)
                      go_simp
                      refine (caw _ (hTb (hb.trans (b7.mono hb.size)))).mono ?_
                      rintro e w8 ⟨rfl, d8⟩
                      have b8 := bth b7 d8
                      refine hK _ _ ?_
                      clear hK K
                      refine wpList_step (fun K hK => ?_)
                      go_simp
                      refine hK _ _ ?_
                      clear hK K
                      refine wpList_step (fun K hK => ?_)
                      go_simp
                      refine hK _ _ ?_
                      clear hK K
                      refine wpList_nil ?_
                      go_wp2
                      go_ret
                      exact ⟨rfl, hb.trans (b8.mono hb.size)⟩
end Go.Proofs.YtmcnnnmlacpppaaDoor
