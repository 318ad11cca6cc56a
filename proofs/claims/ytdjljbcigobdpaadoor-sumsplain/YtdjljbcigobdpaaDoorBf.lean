/- What Pairwise answers, the program's and the document's. -/
import Derived.Test.YtdjljbcigobdpaaDoorBe
import Derived.Deep.RegionHeld3
import Derived.Deep.DeepCutAuto
namespace Go.Proofs.YtdjljbcigobdpaaDoor
open Go.RowKit

theorem GRow.take {w : World} {ao : Option Addr} {xs : List Nat} (h : GRow w ao xs) (n : Nat) : GRow w ao (xs.take n) := by
  rcases h with h | ⟨b, off, rfl, hc⟩
  · left
    rw [List.length_take]; omega
  · right
    refine ⟨b, off, rfl, fun j hj => ?_⟩
    rw [List.length_take] at hj
    rw [hc j (by omega)]
    have e : (xs.take n).getD j 0 = xs.getD j 0 := by
      simp [List.getD, show j < n by omega]
    rw [e]
theorem GRow.drop {w : World} {b off : Nat} {xs : List Nat} (hc : ∀ j, j < xs.length → w.cell? ⟨b, off + j, none⟩ = some (.float .f64 (xs.getD j 0))) (k : Nat) : GRow w (some ⟨b, off + k, none⟩) (xs.drop k) := by
  right
  refine ⟨b, off + k, rfl, fun j hj => ?_⟩
  rw [List.length_drop] at hj
  have e : (xs.drop k).getD j 0 = xs.getD (k + j) 0 := by
    simp [List.getD, List.getElem?_drop]
  rw [e, ← hc (k + j) (by omega), Nat.add_assoc]
theorem FW.take {xs : List Nat} (h : FW xs) (n : Nat) : FW (xs.take n) := fun x hx => h x (List.mem_of_mem_take hx)
theorem FW.drop {xs : List Nat} (h : FW xs) (n : Nat) : FW (xs.drop n) := fun x hx => h x (List.mem_of_mem_drop hx)
set_option maxHeartbeats 2000000 in
theorem rpair_any : ∀ (n : Nat) (xs : List Nat) (ao : Option Addr) (cap : Nat) (w : World), xs.length ≤ n → GRow w ao xs → FW xs → xs.length ≤ cap → cap ≤ 1125899906842624 →
    Calls Tryd.prog 9 #[.slice ao xs.length cap] w fun e w' => ∃ r, e = .returned (.float .f64 r) ∧ NR (pairF n xs) r ∧ Below w.heap.size w w'
  | 0, xs, ao, cap, w, hl, hr, hF, hc, hn => by
    have e0 : ((xs.length : Int) == 0) = true := by simp; exact List.eq_nil_of_length_eq_zero (by omega)
    go_enter Tryd.func9, Tryd.ntmps9
    go_wp2
    go_ret
    exact ⟨_, rfl, ⟨by omega, rfl⟩, Below.refl _ _⟩
  | n + 1, [], ao, cap, w, hl, hr, hF, hc, hn => by
    go_enter Tryd.func9, Tryd.ntmps9
    go_wp2
    go_ret
    exact ⟨_, rfl, ⟨by omega, rfl⟩, Below.refl _ _⟩
  | n + 1, [x], ao, cap, w, hl, hr, hF, hc, hn => by
    rcases hr with h | ⟨b, off, rfl, hcell⟩
    · cases h
    · have g0 := hcell 0 (by simp)
      simp only [Nat.add_zero, List.getD_cons_zero] at g0
      have hx : x < 18446744073709551616 := hF x (by simp)
      have HX : Hid (NR (pairF (n + 1) [x]) x) := (show NR _ _ from toO_NR hx)
      clear hcell
      go_enter Tryd.func9, Tryd.ntmps9
      go_wp2
      go_ret
      exact ⟨_, rfl, HX.out, Below.refl _ _⟩
  | n + 1, x :: y :: zs, ao, cap, w, hl, hr, hF, hc, hn => by
    obtain ⟨xs, exs⟩ : ∃ xs, x :: y :: zs = xs := ⟨_, rfl⟩
    have hlen : 2 ≤ xs.length := by rw [← exs]; simp
    have hp : pairF (n + 1) xs = opO .add (pairF n (xs.take (xs.length / 2))) (pairF n (xs.drop (xs.length / 2))) := by rw [← exs]; rfl
    rw [exs] at hl hr hF hc ⊢
    rw [hp]
    clear hp exs
    rcases hr with h | ⟨b, off, rfl, hcell⟩
    · omega
    · obtain ⟨k, hk⟩ : ∃ k, xs.length / 2 = k := ⟨_, rfl⟩
      rw [hk]
      have hr1 : GRow w (some ⟨b, off, none⟩) (xs.take k) := GRow.take (Or.inr ⟨b, off, rfl, hcell⟩) k
      have hr2 := GRow.drop hcell k
      have l1 : (xs.take k).length = k := by rw [List.length_take]; omega
      have l2 : (xs.drop k).length = xs.length - k := List.length_drop
      have i1 := fun w h => rpair_any n (xs.take k) (some ⟨b, off, none⟩) cap w (by omega) h (hF.take k) (by omega) hn
      have i2 := fun w h => rpair_any n (xs.drop k) (some ⟨b, off + k, none⟩) (cap - k) w (by omega) h (hF.drop k) (by omega) (by omega)
      rw [l1] at i1
      rw [l2] at i2
      have h1 := fun x y w => run_op4 (P := Tryd.prog) (op := .add) (Or.inl rfl) 25 x y w
      have e0 : ((xs.length : Int) == 0) = false := by simp; intro h; rw [h] at hlen; simp at hlen
      have e1 : ((xs.length : Int) == 1) = false := by simp; omega
      have hq : (xs.length : Int).tdiv 2 = (k : Int) := by rw [Int.tdiv_eq_ediv_of_nonneg (by omega)]; omega
      have hkc : (k : Int) ≤ (cap : Int) := by omega
      have hkl : (k : Int) ≤ (xs.length : Int) := by omega
      clear hcell l1 l2 hF
      go_enter Tryd.func9, Tryd.ntmps9
      go_upto_region 6 with (go_at_call 9; refine (i1 _ hr1).mono ?_; rintro e w1 ⟨r1, rfl, n1, b1⟩)
      go_wp2_with (go_at_call 9; refine (i2 _ (hr2.below b1)).mono ?_; rintro e w2 ⟨r2, rfl, n2, b2⟩)
      go_ret
      exact ⟨_, rfl, opO_NR (Or.inl rfl) n1 n2 _, opW_below .add _ _ (b1.trans (b2.mono b1.size))⟩
set_option maxHeartbeats 2000000 in
theorem pair_any : ∀ (n : Nat) (xs : List Nat) (ao : Option Addr) (cap : Nat) (w : World), xs.length ≤ n → GRow w ao xs → FW xs → xs.length ≤ cap → cap ≤ 1125899906842624 →
    Calls Tryd.prog 8 #[.slice ao xs.length cap] w fun e w' => ∃ r, e = .returned (.float .f64 r) ∧ NR (pairF n xs) r ∧ Below w.heap.size w w'
  | 0, xs, ao, cap, w, hl, hr, hF, hc, hn => by
    have e0 : ((xs.length : Int) == 0) = true := by simp; exact List.eq_nil_of_length_eq_zero (by omega)
    go_enter Tryd.func8, Tryd.ntmps8
    go_wp2
    go_ret
    exact ⟨_, rfl, ⟨by omega, rfl⟩, Below.refl _ _⟩
  | n + 1, [], ao, cap, w, hl, hr, hF, hc, hn => by
    go_enter Tryd.func8, Tryd.ntmps8
    go_wp2
    go_ret
    exact ⟨_, rfl, ⟨by omega, rfl⟩, Below.refl _ _⟩
  | n + 1, [x], ao, cap, w, hl, hr, hF, hc, hn => by
    rcases hr with h | ⟨b, off, rfl, hcell⟩
    · cases h
    · have g0 := hcell 0 (by simp)
      simp only [Nat.add_zero, List.getD_cons_zero] at g0
      have hx : x < 18446744073709551616 := hF x (by simp)
      have HX : Hid (NR (pairF (n + 1) [x]) x) := (show NR _ _ from toO_NR hx)
      clear hcell
      go_enter Tryd.func8, Tryd.ntmps8
      go_wp2
      go_ret
      exact ⟨_, rfl, HX.out, Below.refl _ _⟩
  | n + 1, x :: y :: zs, ao, cap, w, hl, hr, hF, hc, hn => by
    obtain ⟨xs, exs⟩ : ∃ xs, x :: y :: zs = xs := ⟨_, rfl⟩
    have hlen : 2 ≤ xs.length := by rw [← exs]; simp
    have hp : pairF (n + 1) xs = opO .add (pairF n (xs.take (xs.length / 2))) (pairF n (xs.drop (xs.length / 2))) := by rw [← exs]; rfl
    rw [exs] at hl hr hF hc ⊢
    rw [hp]
    clear hp exs
    rcases hr with h | ⟨b, off, rfl, hcell⟩
    · omega
    · obtain ⟨k, hk⟩ : ∃ k, xs.length / 2 = k := ⟨_, rfl⟩
      rw [hk]
      have hr1 : GRow w (some ⟨b, off, none⟩) (xs.take k) := GRow.take (Or.inr ⟨b, off, rfl, hcell⟩) k
      have hr2 := GRow.drop hcell k
      have l1 : (xs.take k).length = k := by rw [List.length_take]; omega
      have l2 : (xs.drop k).length = xs.length - k := List.length_drop
      have i1 := fun w h => pair_any n (xs.take k) (some ⟨b, off, none⟩) cap w (by omega) h (hF.take k) (by omega) hn
      have i2 := fun w h => pair_any n (xs.drop k) (some ⟨b, off + k, none⟩) (cap - k) w (by omega) h (hF.drop k) (by omega) (by omega)
      rw [l1] at i1
      rw [l2] at i2
      have h1 := fun x y w => run_op4 (P := Tryd.prog) (op := .add) (Or.inl rfl) 25 x y w
      have hcv := conv64
      have e0 : ((xs.length : Int) == 0) = false := by simp; intro h; rw [h] at hlen; simp at hlen
      have e1 : ((xs.length : Int) == 1) = false := by simp; omega
      have hq : (xs.length : Int).tdiv 2 = (k : Int) := by rw [Int.tdiv_eq_ediv_of_nonneg (by omega)]; omega
      have hkc : (k : Int) ≤ (cap : Int) := by omega
      have hkl : (k : Int) ≤ (xs.length : Int) := by omega
      have k1 : 1 ≤ k := by omega
      clear hcell l1 l2 hF
      go_enter Tryd.func8, Tryd.ntmps8
      go_wp2
      go_region_with
        (first
          | (go_at_call_of 8 (Value.slice (some ⟨b, off, none⟩) k cap); refine (i1 _ (hr1.below z1)).mono ?_; rintro e x2 ⟨s1, rfl, n1, y2⟩; have z2 := z1.trans (y2.mono z1.size))
          | (go_at_call_of 8 (Value.slice (some ⟨b, off + k, none⟩) (xs.length - k) (cap - k)); refine (i2 _ (hr2.below z1)).mono ?_; rintro e x2 ⟨s2, rfl, n2, y2⟩; have z2 := z1.trans (y2.mono z1.size))
          | (go_at_call_of 8 (Value.slice (some ⟨b, off, none⟩) k cap); refine (i1 w.drew hr1).mono ?_; rintro e x1 ⟨s1, rfl, n1, y1⟩; have z1 : Below w.heap.size w x1 := ⟨y1.os, y1.tape, y1.output, y1.size, y1.block⟩)
          | (go_at_call_of 8 (Value.slice (some ⟨b, off + k, none⟩) (xs.length - k) (cap - k)); refine (i2 w.drew hr2).mono ?_; rintro e x1 ⟨s2, rfl, n2, y1⟩; have z1 : Below w.heap.size w x1 := ⟨y1.os, y1.tape, y1.output, y1.size, y1.block⟩))
      all_goals
        go_wp2
        go_ret
        exact ⟨_, rfl, opO_NR (Or.inl rfl) n1 n2 _, opW_below .add _ _ z2⟩
end Go.Proofs.YtdjljbcigobdpaaDoor
