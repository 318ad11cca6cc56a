/- LowerBack: CopyReals, CopyFactor, Ldexp of 1. -/
import Derived.Test.YtbnjjoaippoinaaLb0
import Derived.Test.YtbnjjoaippoinaaLw11
import Derived.Test.YtbnjjoaippoinaaLw17
import Derived.Test.YtbnjjoaippoinaaCb
namespace Go.Proofs.Ytbnjjoaippoinaa
open Go.RowKit

set_option maxHeartbeats 400000 in
theorem ldexp_pw (L : Int) (M : Nat) (h1 : -1022 ≤ L) (h2 : L ≤ 1023) (hM : (M : Int) = 4607182418800017408 + L * 4503599627370496) (w : World) :
    Calls Try.prog 23 #[.float .f64 4607182418800017408, .int .i64 L] w fun e w' => e = .returned (.float .f64 M) ∧ w' = w := by
  have e0 : (4607182418800017408 / 4503599627370496 : Nat) = 1023 := by decide
  have cl := ldexp_at 4607182418800017408 L (by decide) (by decide) (by omega) (by omega) M (Or.inr (Or.inl ⟨by rw [e0]; omega, by rw [e0]; omega, hM⟩))
  clear h1 h2 hM e0
  go_enter Try.func23, Try.ntmps23
  go_wp2_with (go_at_call 41; refine (cl _).mono ?_; rintro e w' ⟨rfl, h'⟩; subst w')
  go_ret
  exact ⟨rfl, rfl⟩
/-- A list handed back, with its room. -/
def GaveC (w : World) (n : Nat) (ys : List Nat) (e : Ending) (w' : World) : Prop := ∃ bo bc, e = .returned (.slice bo n bc) ∧ GRow w' bo ys ∧ n ≤ bc ∧ Frs w.heap.size bo ∧ Below w.heap.size w w'
theorem fvl_one (xs : List Nat) : ∀ u ∈ fv xs, u.oneCell' = true := fun u hu => by
  obtain ⟨x, _, rfl⟩ := List.mem_map.1 hu
  rfl
set_option maxHeartbeats 1000000 in
theorem copyR_any (xs : List Nat) (ao : Option Addr) (cap : Nat) (w : World) (hr : GRow w ao xs) (hn : xs.length ≤ 2304) (hz : xs.length = 0 → ao = none ∧ cap = 0) :
    Calls Try.prog 26 #[.slice ao xs.length cap] w fun e w' => GaveC w xs.length xs e w' := by
  obtain ⟨i0, hi, hz0, hz1, hz2⟩ := info_parts Try.infoF
  by_cases h0 : xs.length = 0
  · obtain ⟨rfl, rfl⟩ := hz h0
    have ex : xs = [] := List.length_eq_zero_iff.1 h0
    subst ex
    clear hz h0
    go_enter Try.func26, Try.ntmps26
    go_wp2
    exact bodyPost_ret (v := .slice none 0 0) (by simp [results, Try.results26, go_sem]) rfl ⟨none, 0, rfl, Or.inl rfl, Nat.le_refl _, Frs.none _, Below.refl _ _⟩
  · rcases hr with h | ⟨b, off, rfl, hc⟩
    · exact absurd h h0
    have hO : w.ownsRow w.heap.size 38 1 (.slice none 0 0) 0 [] := World.ownsRow_nil _ _ _ _
    have hnews : ∀ j u, (fv xs)[j]? = some u → w.cell? ((⟨b, off, none⟩ : Addr).add j) = some u := fun j u hu => by
      have hj : j < xs.length := by
        have := (List.getElem?_eq_some_iff.1 hu).1
        rw [fv_length] at this; exact this
      rw [fv_at hj] at hu
      cases hu
      have := hc j hj
      unfold Addr.add
      split
      · rename_i h; subst h; exact this
      · exact this
    have hfin : ∀ (v' : Value) (w1 : World), w1.ownsRow w.heap.size 38 1 v' (0 + xs.length) ([] ++ fv xs) → ∃ bo bc, v' = .slice bo xs.length bc ∧ GRow w1 bo xs ∧ xs.length ≤ bc ∧ Frs w.heap.size bo := fun v' w1 h => by
      rw [Nat.zero_add, List.nil_append] at h
      exact owned_grow h
    clear hc hz
    go_enter Try.func26, Try.ntmps26
    go_wp2_with (at_builtin; refine wpList_append_own _ rfl _ _ 22 rfl w.heap.size 38 i0 (.float .f64 0) 1 8 Try.underlying22 hi hz0 hz1 hz2 rfl (by decide) _ _ _ rfl hO ⟨b, off, none⟩ xs.length cap (fv xs) rfl (by rw [fv_length, Nat.mul_one]) hnews (fvl_one xs) (by unfold maxLen; omega) (by omega) (Nat.le_refl _) ?_; intro v' w1 hown1 hgrow _)
    obtain ⟨bo, bc, rfl, q1, q2, q3⟩ := hfin _ _ hown1
    have hb2 : Below w.heap.size w w1 := (Below.refl _ _).grown hgrow (Nat.le_refl _) (fun k hk => by cases hk)
    clear hown1 hfin hgrow
    go_wp2
    exact bodyPost_ret (v := .slice bo xs.length bc) (by simp [results, Try.results26, go_sem]) rfl ⟨bo, bc, rfl, q1, q2, q3, hb2⟩
theorem B3.putM {w : World} {b : Nat} {x y z : Value} (h : B3 w b x y z) (v : Value) : B3 (w.setCell ⟨b, 1, none⟩ v) b x v z := by
  obtain ⟨h0, h1, h2, g0, g1, g2, h5⟩ := h
  exact ⟨(World.cell?_setCell_other w _ _ v (by simp)).trans h0, World.cell?_setCell_same w _ v h1, (World.cell?_setCell_other w _ _ v (by simp)).trans h2, by simp [go_sem, g0], by simp [go_sem, g1], by simp [go_sem, g2], by simp [go_sem]; exact h5⟩
theorem GRow.farF {w : World} {ao : Option Addr} {xs : List Nat} {n : Nat} (h : GRow w ao xs) (hf : Frs n ao) {g : Nat} (hg : g < n) (q : Nat) (v : Value) : GRow (w.setCell ⟨g, q, none⟩ v) ao xs := by
  rcases h with h | ⟨b, off, rfl, hc⟩
  · exact Or.inl h
  · have hb : n ≤ b := hf _ rfl
    refine Or.inr ⟨b, off, rfl, fun j hj => ?_⟩
    exact (World.cell?_setCell_other _ _ _ v (fun e => by cases e; omega)).trans (hc j hj)
theorem GRow.farF3 {w : World} {ao : Option Addr} {xs : List Nat} {n : Nat} (h : GRow w ao xs) (hf : Frs n ao) {g : Nat} (hg : g < n) (x y z : Value) : GRow (((w.setCell ⟨g, 0, none⟩ x).setCell ⟨g, 1, none⟩ y).setCell ⟨g, 2, none⟩ z) ao xs := ((h.farF hf hg 0 x).farF hf hg 1 y).farF hf hg 2 z
/-- A factor handed back. -/
def GaveCf (w : World) (n : Int) (ln dn : Nat) (ls ds : List Nat) (e : Ending) (w' : World) : Prop := ∃ lo lc dO dc, e = .returned (fcV n lo ln lc dO dn dc) ∧ GRow w' lo ls ∧ GRow w' dO ds ∧ ln ≤ lc ∧ Below w.heap.size w w'
set_option maxHeartbeats 2000000 in
theorem copyF_any (n : Int) (ls ds : List Nat) (lo dO : Option Addr) (lc dc : Nat) (w : World) (hL : GRow w lo ls) (hD : GRow w dO ds) (nl : ls.length ≤ 2304) (nd : ds.length ≤ 2304) (zl : ls.length = 0 → lo = none ∧ lc = 0) (zd : ds.length = 0 → dO = none ∧ dc = 0) :
    Calls Try.prog 28 #[fcV n lo ls.length lc dO ds.length dc] w fun e w' => GaveCf w n ls.length ds.length ls ds e w' := by
  have c1 := fun W h => copyR_any ls lo lc W h nl zl
  have c2 := fun W h => copyR_any ds dO dc W h nd zd
  go_enter Try.func28, Try.ntmps28
  go_upto_region 1 with fail
  have MB := (B3.new w (.int .i64 n) (.slice lo ls.length lc) (.slice dO ds.length dc) 26).alloc (.cells #[.int .i64 0, .slice none 0 0, .slice none 0 0] 26)
  have RB := B3.newAt (w := w.alloc (.cells #[.int .i64 n, .slice lo ls.length lc, .slice dO ds.length dc] 26)) (n := w.heap.size + 1) (by go_simp) (.int .i64 0) (.slice none 0 0) (.slice none 0 0) 26
  have BB : Below w.heap.size w ((w.alloc (.cells #[.int .i64 n, .slice lo ls.length lc, .slice dO ds.length dc] 26)).alloc (.cells #[.int .i64 0, .slice none 0 0, .slice none 0 0] 26)) := old_two (Below.refl _ _)
  have hsz : w.heap.size + 1 < ((w.alloc (.cells #[.int .i64 n, .slice lo ls.length lc, .slice dO ds.length dc] 26)).alloc (.cells #[.int .i64 0, .slice none 0 0, .slice none 0 0] 26)).heap.size := by go_simp
  generalize (w.alloc (.cells #[.int .i64 n, .slice lo ls.length lc, .slice dO ds.length dc] 26)).alloc (.cells #[.int .i64 0, .slice none 0 0, .slice none 0 0] 26) = WX0 at *
  obtain ⟨m0, m1, m2, _⟩ := id MB
  go_upto_region 2 with (go_at_call 26; refine (c1 _ (hL.below BB)).mono ?_; rintro e w1 ⟨go, gc, rfl, l1, k1, f1, b1⟩; have MB1 := MB.below b1; have RB1 := RB.below b1; obtain ⟨x0, x1, x2, y0, y1, y2, _⟩ := id MB1; have B1 := BB.trans (b1.mono BB.size))
  have MB2 := MB1.putM (.slice go ls.length gc)
  have RB2 := RB1.far (c := w.heap.size) (by omega) (o := 1) (.slice go ls.length gc)
  have L2 := l1.farF f1 (g := w.heap.size) (by omega) 1 (.slice go ls.length gc)
  have B2 := B1.setCell (p := ⟨w.heap.size, 1, none⟩) (Nat.le_refl _) (.slice go ls.length gc)
  have hs1 := b1.size
  have hz1 : WX0.heap.size ≤ (w1.setCell ⟨w.heap.size, 1, none⟩ (.slice go ls.length gc)).heap.size := by rw [show (w1.setCell ⟨w.heap.size, 1, none⟩ (.slice go ls.length gc)).heap.size = w1.heap.size by simp [World.setCell]]; exact hs1
  generalize w1.setCell ⟨w.heap.size, 1, none⟩ (.slice go ls.length gc) = WX1 at *
  clear m0 m1 m2 x0 x1 x2 y0 y1 y2 MB1 RB1 l1 b1 B1 MB RB BB hs1
  obtain ⟨m0, m1, m2, _⟩ := id MB2
  go_upto_region 3 with (go_at_call 26; refine (c2 _ (hD.below B2)).mono ?_; rintro e w2 ⟨ho, hc, rfl, l2, k2, f2, b2⟩; have MB3 := MB2.below b2; have RB3 := RB2.below b2; have L3 := L2.below b2; obtain ⟨x0, x1, x2, y0, y1, y2, _⟩ := id MB3; have B3' := B2.trans (b2.mono B2.size))
  have MB4 := MB3.put2 (.slice ho ds.length hc)
  have RB4 := RB3.far (c := w.heap.size) (by omega) (o := 2) (.slice ho ds.length hc)
  have L4 := L3.farF f1 (g := w.heap.size) (by omega) 2 (.slice ho ds.length hc)
  have D4 := l2.farF f2 (g := w.heap.size) (by omega) 2 (.slice ho ds.length hc)
  have B4 := B3'.setCell (p := ⟨w.heap.size, 2, none⟩) (Nat.le_refl _) (.slice ho ds.length hc)
  generalize w2.setCell ⟨w.heap.size, 2, none⟩ (.slice ho ds.length hc) = WX2 at *
  clear m0 m1 m2 x0 x1 x2 y0 y1 y2 MB2 RB2 MB3 RB3 L2 L3 l2 b2 B2 B3'
  obtain ⟨m0, m1, m2, _⟩ := id MB4
  obtain ⟨t0, t1, t2, s0, s1, s2, _⟩ := id RB4
  go_wp2
  exact bodyPost_ret (v := fcV n go ls.length gc ho ds.length hc) (by simp [results, Try.results28, go_sem, t0, t1, t2]) rfl ⟨go, gc, ho, hc, rfl, L4.farF3 f1 hsz _ _ _, D4.farF3 f2 (by omega) _ _ _, k1, set_three B4 (by omega) _ _ _⟩
end Go.Proofs.Ytbnjjoaippoinaa
