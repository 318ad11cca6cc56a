/- RefineNever's walk. -/
import Derived.Test.YtmhcajeekhddpaaGreatDoorRg1
namespace Go.Proofs.YtmhcajeekhddpaaGreatDoor
open Go.RowKit

/-- The case's box and its four lists. -/
structure CsS (w wr : World) (r c : Int) (ms : List Nat) (ao : Option Addr) (cap : Nat) (n : Int) (ls : List Nat) (lo : Option Addr) (lc : Nat) (ds : List Nat) (dO : Option Addr) (dc : Nat) (xo : Option Addr) (xn xc : Nat) (bs : List Nat) (bo : Option Addr) (bc : Nat) : Prop where
  box : C8 wr w.heap.size r c ao ms.length cap n lo ls.length lc dO ds.length dc (.slice xo xn xc) (.slice bo bs.length bc)
  tab : TabW wr
  rM : GRow wr ao ms
  rL : GRow wr lo ls
  rD : GRow wr dO ds
  rB : GRow wr bo bs
  below : Below w.heap.size w wr
theorem CsS.later {w wr w1 : World} {r c : Int} {ms : List Nat} {ao : Option Addr} {cap : Nat} {n : Int} {ls : List Nat} {lo : Option Addr} {lc : Nat} {ds : List Nat} {dO : Option Addr} {dc : Nat} {xo : Option Addr} {xn xc : Nat} {bs : List Nat} {bo : Option Addr} {bc : Nat} (h : CsS w wr r c ms ao cap n ls lo lc ds dO dc xo xn xc bs bo bc) (hb : Below wr.heap.size wr w1) : CsS w w1 r c ms ao cap n ls lo lc ds dO dc xo xn xc bs bo bc :=
  ⟨h.box.below hb, tabW_below h.tab hb, h.rM.below hb, h.rL.below hb, h.rD.below hb, h.rB.below hb, h.below.trans (hb.mono h.below.size)⟩
theorem sameL_self (xs : List Nat) : sameL xs xs = true := sameL_yes rfl (fun j _ => by unfold sameB; cases nanB (xs.getD j 0) <;> simp)
theorem unA_yes {r c : Int} {ms : List Nat} {n : Int} {ls ds bs : List Nat} (h : unE r c ms n ls ds bs = 0) (k : Nat) : unA r c ms n ls ds bs k = ((unR r c ms n ls ds bs k).1.1, (unR r c ms n ls ds bs k).2, 0) := by unfold unA; rw [if_pos h]
theorem unA_no {r c : Int} {ms : List Nat} {n : Int} {ls ds bs : List Nat} (h : unE r c ms n ls ds bs ≠ 0) (k : Nat) : unA r c ms n ls ds bs k = ([], 0, unE r c ms n ls ds bs) := by unfold unA; rw [if_neg h]
theorem lfA_ok {r c : Int} {ms ys bs l : List Nat} (h : lfA r c ms ys bs = (l, 0)) : ys.length ≤ 48 := by
  unfold lfA at h
  split at h
  · rename_i hf
    unfold fit14 at hf
    simp only [Bool.and_eq_true, decide_eq_true_eq] at hf
    obtain ⟨R, C, rfl, rfl, _, hC, _⟩ := rightM_nat hf.1.1
    omega
  · cases h
set_option maxRecDepth 100000 in
set_option maxHeartbeats 4000000 in
theorem never_law (r c : Int) (ms : List Nat) (ao : Option Addr) (cap : Nat) (n : Int) (ls : List Nat) (lo : Option Addr) (lc : Nat) (ds : List Nat) (dO : Option Addr) (dc : Nat) (xo : Option Addr) (xn xc : Nat) (bs : List Nat) (bo : Option Addr) (bc : Nat) (at' : Int) (w : World) (hT : TabW w) (hM : GRow w ao ms) (hL : GRow w lo ls) (hD : GRow w dO ds) (hB : GRow w bo bs) (fM : FW ms) (fL : FW ls) (fD : FW ds) (fB : FW bs) (lM : ms.length ≤ 1125899906842624) (lB : bs.length ≤ 1125899906842624) (hz : Shp ao cap) (hcap : ms.length ≤ cap) :
    Calls Tryz.prog 3 #[csV r c ao ms.length cap n lo ls.length lc dO ds.length dc xo xn xc bo bs.length bc, .int .i64 at'] w fun e w' => e = .returned (.bool true) ∧ Below w.heap.size w w' := by
  have B0 := below_one w (.cells #[.int .i64 r, .int .i64 c, .slice ao ms.length cap, .int .i64 n, .slice lo ls.length lc, .slice dO ds.length dc, .slice xo xn xc, .slice bo bs.length bc] 28)
  have S0 : CsS w (w.alloc (.cells #[.int .i64 r, .int .i64 c, .slice ao ms.length cap, .int .i64 n, .slice lo ls.length lc, .slice dO ds.length dc, .slice xo xn xc, .slice bo bs.length bc] 28)) r c ms ao cap n ls lo lc ds dO dc xo xn xc bs bo bc := ⟨C8.new w _ _ _ _ _ _ _ _ _ _ _ _ _ _ _ _ _ _ _, tabW_below hT B0, hM.below B0, hL.below B0, hD.below B0, hB.below B0, B0⟩
  have cg := fun W => great14 r c ao ms.length cap W
  by_cases hg : 100 < ms.length
  · rw [decide_eq_true hg] at cg
    clear hg
    go_enter Tryz.func3, Tryz.ntmps3
    go_wp2_with (first
      | (go_at_call 4; refine (awake14 _ S0.tab).mono ?_; rintro e w1 ⟨rfl, b1⟩; have S1 := S0.later b1; obtain ⟨k0, k1, k2, k3, k4, k5, k6, k7⟩ := id S1.box)
      | (go_at_call 5; refine (cg _).mono ?_; rintro e w2 ⟨rfl, b2⟩; have S2 := S1.later b2))
    go_ret
    exact ⟨rfl, S2.below⟩
  rw [decide_eq_false hg] at cg
  by_cases hb : 100 < bs.length
  · have i1 : (100 : Int) < (bs.length : Int) := by omega
    clear hg hb
    go_enter Tryz.func3, Tryz.ntmps3
    go_wp2_with (first
      | (go_at_call 4; refine (awake14 _ S0.tab).mono ?_; rintro e w1 ⟨rfl, b1⟩; have S1 := S0.later b1; obtain ⟨k0, k1, k2, k3, k4, k5, k6, k7⟩ := id S1.box)
      | (go_at_call 5; refine (cg _).mono ?_; rintro e w2 ⟨rfl, b2⟩; have S2 := S1.later b2; obtain ⟨k0, k1, k2, k3, k4, k5, k6, k7⟩ := id S2.box))
    go_ret
    exact ⟨rfl, S2.below⟩
  have i1 : ¬ (100 : Int) < (bs.length : Int) := by omega
  clear hg hb
  have cu := fun (k : Nat) (hk : k ≤ 64) W h0 h1 h2 h3 h4 => until_any r c ms n ls ds bs k ao lo dO bo cap lc dc bc W hk h0 h1 h2 h3 h4 fM fL fD fB lM lB hz hcap
  go_enter Tryz.func3, Tryz.ntmps3
  go_upto_region 6 with (first
    | (go_at_call 4; refine (awake14 _ S0.tab).mono ?_; rintro e w1 ⟨rfl, b1⟩; have S1 := S0.later b1; obtain ⟨k0, k1, k2, k3, k4, k5, k6, k7⟩ := id S1.box)
    | (go_at_call 5; refine (cg _).mono ?_; rintro e w2 ⟨rfl, b2⟩; have S2 := S1.later b2; obtain ⟨k0, k1, k2, k3, k4, k5, k6, k7⟩ := id S2.box)
    | (go_at_call 6; refine (pick12 _ _).mono ?_; rintro e w3 ⟨k, rfl, hk, h'⟩; subst w3))
  have u1 := cu k (by omega)
  have u2 := cu (k + 1) (by omega)
  clear S0 S1 b1 b2 B0 cg cu hT hM hL hD hB
  by_cases hE : unE r c ms n ls ds bs = 0
  case neg =>
    rw [unA_no hE] at u1 u2
    generalize unE r c ms n ls ds bs = er at *
    have i2 : (er != 0) = true := by simp [hE]
    have i3 : (er != er) = false := by simp
    have i4 : (er == er) = true := by simp
    clear hE
    go_wp2_with (first
      | (go_at_call 7; have q5 := S5; refine (u2 _ S5.tab S5.rM S5.rL S5.rD S5.rB).mono ?_; rintro e w6 ⟨yo, yc, rfl, g1, g2, g3, g4, b6⟩; have S6 := S5.later b6)
      | (go_at_call 7; refine (u1 _ S2.tab S2.rM S2.rL S2.rD S2.rB).mono ?_; rintro e w5 ⟨zo, zc, rfl, f1, f2, f3, f4, b5⟩; have S5 := S2.later b5; obtain ⟨k0, k1, k2, k3, k4, k5, k6, k7⟩ := id S5.box))
    go_ret
    exact ⟨rfl, S6.below⟩
  rw [unA_yes hE] at u1 u2
  have hN := nev_of w hE k
  obtain ⟨s1, s2, s3, _⟩ := un_first hE
  have cs : ∀ W, GRow W lo ls → GRow W dO ds → GRow W bo bs → Calls Tryz.prog 8 #[fcV n lo ls.length lc dO ds.length dc, .slice bo bs.length bc] W fun e w' => GaveLe W (sv14 n ls ds bs) e w' := fun W h1 h2 h3 => ssolve_any n ls ds bs lo dO bo lc dc bc (fun i => toO (bs.getD i 0)) W h1 h2 h3 fL fD (fun i hi => toO_NR (fB.at hi))
  have HV : Hid (∀ ys, LN (sv14 n ls ds bs).1 ys → ys = (fi14 r c ms n ls ds bs).1.1) := fun ys h => by rw [s3]; exact LN_val h s2
  have hlen0 := (fi14_len r c ms n ls ds bs).1
  have cl := fun (ys l : List Nat) (yo : Option Addr) (yc : Nat) W h0 h1 h2 h3 h4 h5 hl => left14 r c ms n lo ls.length lc dO ds.length dc bs ys ao bo yo xo cap bc yc xn xc W h0 h1 h2 h3 fM fB h4 lM lB h5 hz hcap l hl
  generalize sv14 n ls ds bs = A at *
  obtain ⟨os, er⟩ := A
  simp only at s1 HV
  subst s1
  generalize (fi14 r c ms n ls ds bs).1.1 = x0 at *
  generalize (fi14 r c ms n ls ds bs).1.2 = l0 at *
  generalize (unR r c ms n ls ds bs k).1.1 = X at *
  generalize (unR r c ms n ls ds bs k).1.2 = lX at *
  generalize (unR r c ms n ls ds bs k).2 = N at *
  generalize (unR r c ms n ls ds bs (k + 1)).1.1 = Y at *
  generalize (unR r c ms n ls ds bs (k + 1)).1.2 = lY at *
  generalize (unR r c ms n ls ds bs (k + 1)).2 = M at *
  clear hE s2 s3
  have eX := lfA_ok hN.fX
  have eY := lfA_ok hN.fY
  have c1 := fun (o : Option Addr) (q : Nat) W h0 h1 h2 h3 h4 => cl x0 l0 o q W h0 h1 h2 h3 h4 (by omega) hN.f0
  have c2 := fun (o : Option Addr) (q : Nat) W h0 h1 h2 h3 h4 => cl X lX o q W h0 h1 h2 h3 h4 (by omega) hN.fX
  have c3 := fun (o : Option Addr) (q : Nat) W h0 h1 h2 h3 h4 => cl Y lY o q W h0 h1 h2 h3 h4 (by omega) hN.fY
  clear cl
  have wk : IntKind.i64.wrap ((k : Int) + 1) = (k : Int) + 1 := by simp only [IntKind.wrap_i64]; omega
  go_upto_region 8 with (first
    | (go_at_call 7; have q5 := S5; refine (u2 _ S5.tab S5.rM S5.rL S5.rD S5.rB).mono ?_; rintro e w6 ⟨yo, yc, rfl, g1, g2, g3, g4, b6⟩; have S6 := S5.later b6)
    | (go_at_call 7; refine (u1 _ S2.tab S2.rM S2.rL S2.rD S2.rB).mono ?_; rintro e w5 ⟨zo, zc, rfl, f1, f2, f3, f4, b5⟩; have S5 := S2.later b5; obtain ⟨k0, k1, k2, k3, k4, k5, k6, k7⟩ := id S5.box))
  replace f1 := f1.below b6
  clear k0 k1 k2 k3 k4 k5 k6 k7 S2 S5 b5 b6 u1 u2 f4 g4
  obtain ⟨k0, k1, k2, k3, k4, k5, k6, k7⟩ := id S6.box
  go_upto_region 11 with (go_at_call 8; refine (cs _ S6.rL S6.rD S6.rB).mono ?_; rintro e w7 ⟨_, rfl, ro, rc, rs, rfl, h1, h2, h3, h4, b7⟩; have S7 := S6.later b7; have h5 := h1.fw; obtain rfl := HV.out rs h1)
  replace f1 := f1.below b7
  replace g1 := g1.below b7
  clear k0 k1 k2 k3 k4 k5 k6 k7 S6 b7 cs HV h1 h4
  obtain ⟨k0, k1, k2, k3, k4, k5, k6, k7⟩ := id S7.box
  go_upto_region 12 with (go_at_call 9; refine (c1 _ _ _ S7.tab S7.rM S7.rB h2 h5).mono ?_; rintro e w8 ⟨a, rfl, na, b8⟩; have S8 := S7.later b8)
  replace f1 := f1.below b8
  replace g1 := g1.below b8
  replace h2 := h2.below b8
  clear k0 k1 k2 k3 k4 k5 k6 k7 S7 b8 c1
  obtain ⟨k0, k1, k2, k3, k4, k5, k6, k7⟩ := id S8.box
  go_upto_region 13 with (go_at_call 9; refine (c2 _ _ _ S8.tab S8.rM S8.rB f1 f2).mono ?_; rintro e w9 ⟨b, rfl, nb, b9⟩; have S9 := S8.later b9)
  replace f1 := f1.below b9
  replace g1 := g1.below b9
  replace h2 := h2.below b9
  clear k0 k1 k2 k3 k4 k5 k6 k7 S8 b9 c2
  obtain ⟨k0, k1, k2, k3, k4, k5, k6, k7⟩ := id S9.box
  go_upto_region 14 with (go_at_call 9; refine (c3 _ _ _ S9.tab S9.rM S9.rB g1 g2).mono ?_; rintro e w10 ⟨d, rfl, nd, b10⟩; have S10 := S9.later b10)
  replace f1 := f1.below b10
  replace g1 := g1.below b10
  replace h2 := h2.below b10
  have HB := S10.below
  clear k0 k1 k2 k3 k4 k5 k6 k7 S9 b10 c3 S10 wk
  have hNk := hN.hN
  have i5 : ¬ (N : Int) < 0 := by omega
  have i6 : ¬ (k : Int) < (N : Int) := by omega
  rcases hN.more with ⟨m1, m2, m3⟩ | ⟨m1, m2, m3⟩
  · subst m1 m2 m3
    have o2 := ng_same nd nb
    have ss := fun W h1 h2 => sreals_any Y Y zo yo zc yc W h1 h2 f2 f2 (by omega) (by omega)
    rw [sameL_self] at ss
    have i7 : ¬ (M : Int) < (M : Int) := by omega
    have i8 : ¬ ((M : Int) + 1) < (M : Int) := by omega
    have i9 : ((M : Int) == (M : Int)) = true := by simp
    by_cases h0 : M = 0
    · obtain ⟨z1, z2⟩ := hN.none h0
      subst h0 z1 z2
      have o1 := ng_same nb na
      have sf := fun W h1 h2 => sreals_any _ _ ro zo rc zc W h1 h2 f2 f2 (by omega) (by omega)
      rw [sameL_self] at sf
      clear hN na nb nd
      go_wp2_with (first
        | (go_at_call 10; have q := b11; refine (ss _ (f1.below b11) (g1.below b11)).mono ?_; rintro e w12 ⟨rfl, b12⟩)
        | (go_at_call 10; refine (sf _ h2 f1).mono ?_; rintro e w11 ⟨rfl, b11⟩))
      go_ret
      have HB2 := HB.trans (b11.mono HB.size)
      exact ⟨rfl, HB2.trans (b12.mono HB2.size)⟩
    · have o3 : (FloatKind.f64.format.order b a == some .lt) = true := by rw [NR_lt nb na]; exact hN.some (by omega)
      have o1 := ng_of_lt o3
      have i10 : ((M : Int) == 0) = false := by simp [h0]
      have i11 : (0 : Int) < (M : Int) := by omega
      clear hN na nb nd h0
      go_wp2_with (go_at_call 10; refine (ss _ f1 g1).mono ?_; rintro e w11 ⟨rfl, b11⟩)
      go_ret
      exact ⟨rfl, HB.trans (b11.mono HB.size)⟩
  · subst m1 m2
    have o4 : (FloatKind.f64.format.order d b == some .lt) = true := by rw [NR_lt nd nb]; exact m3
    have o2 := ng_of_lt o4
    have i7 : ¬ ((N : Int) + 1) < (N : Int) := by omega
    have i8 : ¬ ((N : Int) + 1) < ((N : Int) + 1) := by omega
    have i9 : (((N : Int) + 1) == (N : Int)) = false := by
      rw [beq_eq_false_iff_ne]; omega
    have i12 : ((N : Int) == (N : Int)) = true := by simp
    by_cases h0 : N = 0
    · obtain ⟨z1, z2⟩ := hN.none h0
      subst h0 z1 z2
      have o1 := ng_same nb na
      have sf := fun W h1 h2 => sreals_any _ _ ro zo rc zc W h1 h2 f2 f2 (by omega) (by omega)
      rw [sameL_self] at sf
      clear hN na nb nd
      go_wp2_with (go_at_call 10; refine (sf _ h2 f1).mono ?_; rintro e w11 ⟨rfl, b11⟩)
      go_ret
      exact ⟨rfl, HB.trans (b11.mono HB.size)⟩
    · have o3 : (FloatKind.f64.format.order b a == some .lt) = true := by rw [NR_lt nb na]; exact hN.some (by omega)
      have o1 := ng_of_lt o3
      have i10 : ((N : Int) == 0) = false := by simp [h0]
      have i11 : (0 : Int) < (N : Int) := by omega
      clear hN na nb nd h0
      go_wp2
      go_ret
      exact ⟨rfl, HB⟩
end Go.Proofs.YtmhcajeekhddpaaGreatDoor
