/- VectorSums, of any lists and any factor: both sides are one. -/
import Derived.Test.YtojdlheblnjoiaaAk
namespace Go.Proofs.Ytojdlheblnjoiaa
open Go.RowKit

theorem ifFit_len (n m : Nat) (o : Nat → Option Nat) : (ifFit n m (tab n o)).length ≤ n := by
  unfold ifFit
  split
  · rw [tab_len]; exact Nat.le_refl _
  · simp
theorem sreals_LN {os : List (Option Nat)} {rs ss : List Nat} (hr : LN os rs) (hs : LN os ss) (ao bo : Option Addr) (cap cap2 : Nat) (w : World) (g1 : GRow w ao rs) (g2 : GRow w bo ss) (hl : os.length ≤ 17592186044416) :
    Calls Try.prog 11 #[.slice ao rs.length cap, .slice bo ss.length cap2] w fun e w' => e = .returned (.bool true) ∧ Below w.heap.size w w' := by
  have h := sreals_any rs ss ao bo cap cap2 w g1 g2 hr.fw hs.fw (by rw [hr.1]; omega) (by rw [hs.1]; omega)
  rw [hr.same hs] at h
  exact h
theorem GRow.cut {w : World} {ao : Option Addr} {xs : List Nat} (h : GRow w ao xs) (n : Nat) : GRow w ao (xs.take n) := by
  rcases h with h | ⟨b, off, rfl, hc⟩
  · exact Or.inl (by rw [List.length_take, h]; simp)
  · refine Or.inr ⟨b, off, rfl, fun j hj => ?_⟩
    rw [List.length_take] at hj
    rw [hc j (by omega), List.getD_eq_getElem?_getD, List.getD_eq_getElem?_getD, List.getElem?_take_of_lt (by omega)]
theorem FW.cut {xs : List Nat} (h : FW xs) (n : Nat) : FW (xs.take n) := fun x hx => h x (List.mem_of_mem_take hx)
theorem fit_le (n m : Nat) : 0 ≤ fitN n m ∧ fitN n m ≤ 4 := by
  unfold fitN
  split
  · split <;> omega
  · omega
set_option maxRecDepth 100000 in
set_option maxHeartbeats 4000000 in
theorem sums_row (t : Nat) (xs : List Nat) (ao : Option Addr) (cap : Nat) (ys : List Nat) (bo : Option Addr) (cap2 : Nat) (w : World) (ht : t < 18446744073709551616) (hr : GRow w ao xs) (hF : FW xs) (hn : xs.length ≤ cap) (hc : cap ≤ 17592186044416) (hs : GRow w bo ys) (hG : FW ys) (hm : ys.length ≤ cap2) (hd : cap2 ≤ 17592186044416) :
    Calls Try.prog 3 #[.float .f64 t, .slice ao xs.length cap, .slice bo ys.length cap2] w fun e w' => e = .returned (.bool true) ∧ Below w.heap.size w w' := by
  go_enter Try.func3, Try.ntmps3
  go_wp2
  go_loopg [1, 2, 7] 2 (fun g a b i wr => ∃ (k : Nat) (us vs : List Nat), k ≤ 2 ∧ g = 2 - k ∧ i = .int .i64 k ∧ a = .slice ao us.length cap ∧ b = .slice bo vs.length cap2 ∧ GRow wr ao us ∧ FW us ∧ us.length ≤ cap ∧ GRow wr bo vs ∧ FW vs ∧ vs.length ≤ cap2 ∧ Below w.heap.size w wr)
  case atStart => exact ⟨0, xs, ys, by omega, rfl, rfl, rfl, rfl, hr, hF, hn, hs, hG, hm, Below.refl _ _⟩
  case round =>
    clear hr hF hn hs hG hm
    clear xs ys
    obtain ⟨k, xs, ys, hk, hg, rfl, rfl, rfl, hr, hF, hn, hs, hG, hm, HB⟩ := hrel
    have HG : Hid (gk = 2 - k) := hg
    clear hg
    by_cases hlt : k < 2
    · have i1 : (k : Int) < 2 := by omega
      have lx : xs.length ≤ 17592186044416 := by omega
      have ly : ys.length ≤ 17592186044416 := by omega
      have HT : Hid (tab xs.length (axO 4607182418800017408 xs ys) = tab xs.length (adO xs ys)) := ax_one_tab hF
      go_upto_region 10 with (first
        | (go_at_call 7; refine (vadd_any xs ys ao bo cap cap2 _ hr hs hF hG lx ly).mono ?_; rintro e wz ⟨v, rfl, a1, c1, rs1, rfl, n1, g1, _, _, bz⟩; replace hr := hr.below bz; replace hs := hs.below bz; replace HB := HB.trans (bz.mono HB.size))
        | (go_at_call 8; refine (radd_all xs ys ao bo cap cap2 _ hr hs hF hG lx ly).mono ?_; rintro e wz ⟨v, rfl, a2, c2, rs2, rfl, n2, g2, _, _, bz⟩; replace hr := hr.below bz; replace hs := hs.below bz; replace HB := HB.trans (bz.mono HB.size); replace g1 := g1.below bz; rw [HT.out] at n2)
        | (go_at_call 9; refine (vsub_any xs ys ao bo cap cap2 _ hr hs hF hG lx ly).mono ?_; rintro e wz ⟨v, rfl, a3, c3, rs3, rfl, n3, g3, _, _, bz⟩; replace hr := hr.below bz; replace hs := hs.below bz; replace HB := HB.trans (bz.mono HB.size); replace g1 := g1.below bz; replace g2 := g2.below bz)
        | (go_at_call 10; refine (rsub_any xs ys ao bo cap cap2 _ hr hs hF hG lx ly).mono ?_; rintro e wz ⟨v, rfl, a4, c4, rs4, rfl, n4, g4, _, _, bz⟩; replace hr := hr.below bz; replace hs := hs.below bz; replace HB := HB.trans (bz.mono HB.size); replace g1 := g1.below bz; replace g2 := g2.below bz; replace g3 := g3.below bz)
        | (go_at_call_of 11 (Value.slice a1 rs1.length c1); refine (sreals_LN n1 n2 _ _ _ _ _ g1 g2 (Nat.le_trans (ifFit_len _ _ _) lx)).mono ?_; rintro e wz ⟨rfl, bz⟩; replace hr := hr.below bz; replace hs := hs.below bz; replace HB := HB.trans (bz.mono HB.size); replace g3 := g3.below bz; replace g4 := g4.below bz)
        | (go_at_call_of 11 (Value.slice a3 rs3.length c3); refine (sreals_LN n3 n4 _ _ _ _ _ g3 g4 (Nat.le_trans (ifFit_len _ _ _) lx)).mono ?_; rintro e wz ⟨rfl, bz⟩; replace hr := hr.below bz; replace hs := hs.below bz; replace HB := HB.trans (bz.mono HB.size)))
      clear HT n1 n2 n3 n4 g1 g2 g3 g4
      go_upto_region 16 with (first
        | (go_at_call 12; refine (vaxpy_any t xs ys ao bo cap cap2 _ ht hr hs hF hG lx ly).mono ?_; rintro e wz ⟨v, rfl, a5, c5, rs5, rfl, n5, g5, _, _, bz⟩; replace hr := hr.below bz; replace hs := hs.below bz; replace HB := HB.trans (bz.mono HB.size))
        | (go_at_call 13; refine (raxpy_any t xs ys ao bo cap cap2 _ ht hr hs hF hG lx ly).mono ?_; rintro e wz ⟨v, rfl, a6, c6, rs6, rfl, n6, g6, _, _, bz⟩; replace hr := hr.below bz; replace hs := hs.below bz; replace HB := HB.trans (bz.mono HB.size); replace g5 := g5.below bz)
        | (go_at_call 14; refine (vdot_any xs ys ao bo cap cap2 _ hr hs hF hG lx ly).mono ?_; rintro e wz ⟨d7, rfl, n7, bz⟩; replace hr := hr.below bz; replace hs := hs.below bz; replace HB := HB.trans (bz.mono HB.size); replace g5 := g5.below bz; replace g6 := g6.below bz)
        | (go_at_call 15; refine (rdotv_any xs ys ao bo cap cap2 _ hr hs hF hG lx ly).mono ?_; rintro e wz ⟨d8, rfl, n8, bz⟩; replace hr := hr.below bz; replace hs := hs.below bz; replace HB := HB.trans (bz.mono HB.size); replace g5 := g5.below bz; replace g6 := g6.below bz)
        | (go_at_call_of 11 (Value.slice a5 rs5.length c5); refine (sreals_LN n5 n6 _ _ _ _ _ g5 g6 (Nat.le_trans (ifFit_len _ _ _) lx)).mono ?_; rintro e wz ⟨rfl, bz⟩; replace hr := hr.below bz; replace hs := hs.below bz; replace HB := HB.trans (bz.mono HB.size))
        | (go_at_call 16; refine (vsameNR n7 n8 _).mono ?_; rintro e w' ⟨rfl, h'⟩; subst w')
        | (go_at_call 17; refine (vscale_any t xs ao cap _ ht hr hF lx).mono ?_; rintro e wz ⟨v, rfl, a9, c9, rs9, rfl, n9, g9, _, _, bz⟩; replace hr := hr.below bz; replace hs := hs.below bz; replace HB := HB.trans (bz.mono HB.size))
        | (go_at_call 18; refine (rscale_any t xs ao cap _ ht hr hF lx).mono ?_; rintro e wz ⟨v, rfl, a10, c10, rs10, rfl, n10, g10, _, _, bz⟩; replace hr := hr.below bz; replace hs := hs.below bz; replace HB := HB.trans (bz.mono HB.size); replace g9 := g9.below bz)
        | (go_at_call_of 11 (Value.slice a9 rs9.length c9); refine (sreals_LN n9 n10 _ _ _ _ _ g9 g10 (by rw [tab_len]; exact lx)).mono ?_; rintro e wz ⟨rfl, bz⟩; replace hr := hr.below bz; replace hs := hs.below bz; replace HB := HB.trans (bz.mono HB.size)))
      clear n5 n6 n7 n8 n9 n10 g5 g6 g9 g10
      by_cases hle : ys.length < xs.length
      · have lt1 : (xs.take ys.length).length = ys.length := by rw [List.length_take]; omega
        have HQ : Hid (∀ w', Below wz.heap.size wz w' → GRow w' ao (xs.take ys.length) ∧ FW (xs.take ys.length) ∧ GRow w' bo ys ∧ Below w.heap.size w w') := fun w' hb => ⟨(hr.cut _).below hb, hF.cut _, hs.below hb, HB.trans (hb.mono HB.size)⟩
        have j1 : (ys.length : Int) ≤ (cap : Int) := by omega
        have j2 : (ys.length : Int) ≤ (cap2 : Int) := by omega
        have HL : Hid (Value.slice ao ys.length cap = Value.slice ao (xs.take ys.length).length cap ∧ (xs.take ys.length).length ≤ cap) := ⟨by rw [lt1], by omega⟩
        clear lt1
        go_wp2
        go_quiet (fail)
        go_wp2
        go_roundg (2 - (k + 1))
        case measure => rw [HG.out]; omega
        case rel =>
          obtain ⟨q1, q2, q3, q4⟩ := HQ.out _ (below_drewN (Below.refl wz.heap.size wz) _)
          exact ⟨k + 1, xs.take ys.length, ys, by omega, rfl, by go_num, HL.out.1, rfl, q1, q2, HL.out.2, q3, hG, hm, q4⟩
      · have lt1 : (ys.take xs.length).length = xs.length := by rw [List.length_take]; omega
        have HQ : Hid (∀ w', Below wz.heap.size wz w' → GRow w' ao xs ∧ GRow w' bo (ys.take xs.length) ∧ FW (ys.take xs.length) ∧ Below w.heap.size w w') := fun w' hb => ⟨hr.below hb, (hs.cut _).below hb, hG.cut _, HB.trans (hb.mono HB.size)⟩
        have j1 : (xs.length : Int) ≤ (cap : Int) := by omega
        have j2 : (xs.length : Int) ≤ (cap2 : Int) := by omega
        have HL : Hid (Value.slice bo xs.length cap2 = Value.slice bo (ys.take xs.length).length cap2 ∧ (ys.take xs.length).length ≤ cap2) := ⟨by rw [lt1], by omega⟩
        clear lt1
        go_wp2
        go_quiet (fail)
        go_wp2
        go_roundg (2 - (k + 1))
        case measure => rw [HG.out]; omega
        case rel =>
          obtain ⟨q1, q2, q3, q4⟩ := HQ.out _ (below_drewN (Below.refl wz.heap.size wz) _)
          exact ⟨k + 1, xs, ys.take xs.length, by omega, rfl, by go_num, rfl, HL.out.1, q1, hF, hn, q2, q3, HL.out.2, q4⟩
    · have i1 : ¬ (k : Int) < 2 := by omega
      go_wp2_with (go_at_call 19; refine (vawake _).mono ?_; rintro e wz ⟨rfl, bz⟩; replace HB := HB.trans (bz.mono HB.size))
      go_ret
      exact ⟨rfl, HB⟩
end Go.Proofs.Ytojdlheblnjoiaa
