/- That the fixed answers of 'awake' (layer 6) are so. -/
import Derived.Test.YtfhejejfeffdcaaDoorU2
import Derived.Deep.RegionHeld3
import Derived.Deep.DeepCutAuto
import Derived.Test.YtfhejejfeffdcaaDoorU6
import Derived.Test.YtfhejejfeffdcaaDoorU3
namespace Go.Proofs.YtfhejejfeffdcaaDoor
open Go.RowKit

set_option maxHeartbeats 400000 in
theorem naive1_any (xs : List Nat) (b off cap B k : Nat) (w : World) (hc : w.cell? ⟨b, off + k, none⟩ = some (.float .f64 (xs.getD k 0))) (hk : k < xs.length) (hB : w.cell? ⟨B, 0, none⟩ = some (.slice (some ⟨b, off, none⟩) xs.length cap)) :
    Calls Tryd.prog 35 #[.int .i64 k, .pointer (some ⟨B, 0, none⟩)] w fun e w' => e = .returned (.float .f64 (xs.getD k 0)) ∧ w' = w := by
  obtain ⟨x, ex⟩ : ∃ x, xs.getD k 0 = x := ⟨_, rfl⟩
  rw [ex] at hc ⊢
  have i1 : (k : Int) < (xs.length : Int) := by omega
  clear ex
  go_enter Tryd.func35, Tryd.ntmps35
  go_wp2
  go_ret
  exact ⟨rfl, rfl⟩
set_option maxHeartbeats 1000000 in
theorem inorder_any (xs : List Nat) (ao : Option Addr) (cap B : Nat) (w : World) (hr : GRow w ao xs) (hF : FW xs) (hn : xs.length ≤ 1125899906842624) (hB : w.cell? ⟨B, 0, none⟩ = some (.slice ao xs.length cap)) :
    Calls Tryd.prog 34 #[.int .i64 xs.length, .func (.func 35) #[] #[.pointer (some ⟨B, 0, none⟩)]] w fun e w' => ∃ r, e = .returned (.float .f64 r) ∧ NR (naiveO xs) r ∧ Below w.heap.size w w' := by
  have h1 := fun x y w => run_op4 (P := Tryd.prog) (op := .add) (Or.inl rfl) 25 x y w
  have hcv := conv64
  go_enter Tryd.func34, Tryd.ntmps34
  go_wp2
  go_loopg [5, 6, 8] xs.length (fun g s _ i wr => ∃ k r : Nat, k ≤ xs.length ∧ g = xs.length - k ∧ s = .float .f64 r ∧ i = .int .i64 k ∧ Hid (NR (naiveO (xs.take k)) r) ∧ Hid (Below w.heap.size w wr))
  case atStart => exact ⟨0, 0, Nat.zero_le _, rfl, rfl, rfl, ⟨by omega, rfl⟩, Below.refl _ _⟩
  case round =>
    obtain ⟨k, r, hk, hg, rfl, rfl, hN, hBl⟩ := hrel
    have HG : Hid (gk = xs.length - k) := hg
    clear hg
    by_cases hlt : k < xs.length
    · have hBw : wr.cell? ⟨B, 0, none⟩ = some (.slice ao xs.length cap) := by
        rw [hBl.out.cell (World.block_lt_of_cell? w _ hB)]; exact hB
      rcases hr.below hBl.out with h | ⟨b, off, rfl, hc⟩
      · omega
      · have ca := naive1_any xs b off cap B k wr (hc k hlt) hlt hBw
        have hx := hF.at hlt
        have ht := take_at hlt
        obtain ⟨x, ex⟩ : ∃ x, xs.getD k 0 = x := ⟨_, rfl⟩
        rw [ex] at ca hx ht
        have HS : Hid (NR (naiveO (xs.take (k + 1))) (opR .add r x wr)) := (show NR _ _ by
          rw [ht, naive_snoc]
          exact opO_NR (Or.inl rfl) hN.out (toO_NR hx) wr)
        have HB : Hid (Below w.heap.size w (opW .add r x wr)) := opW_below .add r x hBl.out
        have i1 : (k : Int) < (xs.length : Int) := by omega
        clear hc ht ex hN
        go_wp2_with (go_at_call 35; refine ca.mono ?_; rintro e w' ⟨rfl, rfl⟩)
        go_roundg (xs.length - (k + 1))
        case measure => rw [HG.out]; omega
        case rel => exact ⟨k + 1, _, by omega, rfl, rfl, by go_num, HS, HB⟩
    · have e : xs.take k = xs := List.take_of_length_le (by omega)
      have HN : Hid (NR (naiveO xs) r) := (show NR _ _ by rw [← e]; exact hN.out)
      have i1 : ¬ (k : Int) < (xs.length : Int) := by omega
      clear hN e
      go_wp2
      go_ret
      exact ⟨_, rfl, HN.out, hBl.out⟩
set_option maxHeartbeats 400000 in
theorem naive_any (xs : List Nat) (ao : Option Addr) (cap : Nat) (w : World) (hr : GRow w ao xs) (hF : FW xs) (hn : xs.length ≤ 1125899906842624) :
    Calls Tryd.prog 14 #[.slice ao xs.length cap] w fun e w' => ∃ r, e = .returned (.float .f64 r) ∧ NR (naiveO xs) r ∧ Below w.heap.size w w' := by
  have ci := fun B w h1 h2 => inorder_any xs ao cap B w h1 hF hn h2
  go_enter Tryd.func14, Tryd.ntmps14
  go_wp2_with (go_at_call 34; refine (ci _ _ (hr.below ((Below.refl _ _).alloc (Nat.le_refl _) _)) (by go_simp)).mono ?_; rintro e w1 ⟨r, rfl, hN, b1⟩)
  go_ret
  exact ⟨_, rfl, hN, ((Below.refl _ _).alloc (Nat.le_refl _) _).trans (b1.mono (by go_simp))⟩
end Go.Proofs.YtfhejejfeffdcaaDoor

namespace Go.Proofs.YtfhejejfeffdcaaDoor
open Go.RowKit

set_option maxHeartbeats 400000 in
theorem lost_any {og ol ot : Option Nat} {g l t : Nat} (hg : NR og g) (hl : NR ol l) (ht : NR ot t) (w : World) :
    Calls Tryd.prog 36 #[.float .f64 g, .float .f64 l, .float .f64 t] w fun e w' => ∃ r, e = .returned (.float .f64 r) ∧ NR (opO .add (opO .sub og ot) ol) r ∧ Below w.heap.size w w' := by
  have h1 := fun x y w => run_op4 (P := Tryd.prog) (op := .add) (Or.inl rfl) 25 x y w
  have h2 := fun x y w => run_op4 (P := Tryd.prog) (op := .sub) (Or.inr (Or.inl rfl)) 25 x y w
  have hcv := conv64
  have HN : Hid (NR (opO .add (opO .sub og ot) ol) (opR .add (opR .sub g t w) l (opW .sub g t w))) := opO_NR (Or.inl rfl) (opO_NR (Or.inr (Or.inl rfl)) hg ht w) hl _
  have HB : Hid (Below w.heap.size w (opW .add (opR .sub g t w) l (opW .sub g t w))) := opW_below .add _ _ (opW_below .sub g t (Below.refl _ _))
  clear hg hl ht
  go_enter Tryd.func36, Tryd.ntmps36
  go_wp2
  go_ret
  exact ⟨_, rfl, HN.out, HB.out⟩
theorem kept_one (q : Option Nat × Option Nat) (x : Nat) : (keptS q x).1 = opO .add q.1 (toO x) := rfl
theorem kept_ge {q : Option Nat × Option Nat} {x : Nat} (h : geO q.1 (toO x) = true) : (keptS q x).2 = opO .add q.2 (opO .add (opO .sub q.1 (opO .add q.1 (toO x))) (toO x)) := by
  show (if geO q.1 (toO x) then _ else _) = _
  rw [if_pos h]
theorem kept_lt {q : Option Nat × Option Nat} {x : Nat} (h : geO q.1 (toO x) = false) : (keptS q x).2 = opO .add q.2 (opO .add (opO .sub (toO x) (opO .add q.1 (toO x))) q.1) := by
  show (if geO q.1 (toO x) then _ else _) = _
  rw [if_neg (by rw [h]; decide)]
set_option maxHeartbeats 2000000 in
theorem kept_any (xs : List Nat) (ao : Option Addr) (cap : Nat) (w : World) (hr : GRow w ao xs) (hF : FW xs) (hn : xs.length ≤ 1125899906842624) :
    Calls Tryd.prog 16 #[.slice ao xs.length cap] w fun e w' => ∃ r, e = .returned (.float .f64 r) ∧ NR (keptO xs) r ∧ Below w.heap.size w w' := by
  have h1 := fun x y w => run_op4 (P := Tryd.prog) (op := .add) (Or.inl rfl) 25 x y w
  have hcv := conv64
  go_enter Tryd.func16, Tryd.ntmps16
  go_wp2
  go_loopg [3, 4, 5, 6, 7, 10] xs.length (fun g s c _ _ _ i wr => ∃ k r q : Nat, k ≤ xs.length ∧ g = xs.length - k ∧ s = .float .f64 r ∧ c = .float .f64 q ∧ i = .int .i64 k ∧ Hid (NR (keptP (xs.take k)).1 r) ∧ Hid (NR (keptP (xs.take k)).2 q) ∧ Hid (Below w.heap.size w wr))
  case atStart => exact ⟨0, 0, 0, Nat.zero_le _, rfl, rfl, rfl, rfl, ⟨by omega, rfl⟩, ⟨by omega, rfl⟩, Below.refl _ _⟩
  case round =>
    obtain ⟨k, r, q, hk, hg, rfl, rfl, rfl, hN, hQ, hBl⟩ := hrel
    have HG : Hid (gk = xs.length - k) := hg
    clear hg
    by_cases hlt : k < xs.length
    · rcases hr.below hBl.out with h | ⟨b, off, rfl, hc⟩
      · omega
      · have g1 := hc k hlt
        have hx := hF.at hlt
        have ht := take_at hlt
        obtain ⟨x, ex⟩ : ∃ x, xs.getD k 0 = x := ⟨_, rfl⟩
        rw [ex] at g1 hx ht
        have hX := toO_NR hx
        have ht1 : (keptP (xs.take (k + 1))).1 = opO .add (keptP (xs.take k)).1 (toO x) := by rw [ht, kept_snoc]; rfl
        have hT : NR (opO .add (keptP (xs.take k)).1 (toO x)) (opR .add r x wr) := opO_NR (Or.inl rfl) hN.out hX wr
        have hge := geO_NR hN.out hX
        have hB1 : Hid (Below w.heap.size w (opW .add r x wr)) := opW_below .add r x hBl.out
        have HT : Hid (NR (keptP (xs.take (k + 1))).1 (opR .add r x wr)) := (show NR _ _ by rw [ht1]; exact hT)
        have hrl := hN.out.1
        have i1 : (k : Int) < (xs.length : Int) := by omega
        cases gq : geO (keptP (xs.take k)).1 (toO x) <;> rw [gq] at hge
        · have HC : ∀ d w', NR (opO .add (opO .sub (toO x) (opO .add (keptP (xs.take k)).1 (toO x))) (keptP (xs.take k)).1) d → NR (keptP (xs.take (k + 1))).2 (opR .add q d w') := by
            intro d w' h
            rw [ht, kept_snoc, kept_lt gq]
            exact opO_NR (Or.inl rfl) hQ.out h w'
          have cl := fun w => lost_any hX hN.out hT w
          have hHC : Hid (∀ d w', NR (opO .add (opO .sub (toO x) (opO .add (keptP (xs.take k)).1 (toO x))) (keptP (xs.take k)).1) d → NR (keptP (xs.take (k + 1))).2 (opR .add q d w')) := HC
          clear hc ht ht1 ex HC hQ gq hT hN hX
          go_wp2_with (first
            | (go_at_call_of 23 (Value.float FloatKind.f64 r); refine (abs_any r hrl _).mono ?_; rintro e w' ⟨rfl, rfl⟩)
            | (go_at_call_of 23 (Value.float FloatKind.f64 x); refine (abs_any x hx _).mono ?_; rintro e w' ⟨rfl, rfl⟩)
            | (go_at_call 36; refine (cl _).mono ?_; rintro e w2 ⟨d, rfl, hd, b2⟩))
          have HB2 := hB1.out.trans (b2.mono hB1.out.size)
          go_roundg (xs.length - (k + 1))
          case measure => rw [HG.out]; omega
          case rel => exact ⟨k + 1, _, _, by omega, rfl, rfl, rfl, by go_num, HT, hHC.out d _ hd, opW_below .add _ _ HB2⟩
        · have HC : ∀ d w', NR (opO .add (opO .sub (keptP (xs.take k)).1 (opO .add (keptP (xs.take k)).1 (toO x))) (toO x)) d → NR (keptP (xs.take (k + 1))).2 (opR .add q d w') := by
            intro d w' h
            rw [ht, kept_snoc, kept_ge gq]
            exact opO_NR (Or.inl rfl) hQ.out h w'
          have cl := fun w => lost_any hN.out hX hT w
          have hHC : Hid (∀ d w', NR (opO .add (opO .sub (keptP (xs.take k)).1 (opO .add (keptP (xs.take k)).1 (toO x))) (toO x)) d → NR (keptP (xs.take (k + 1))).2 (opR .add q d w')) := HC
          clear hc ht ht1 ex HC hQ gq hT hN hX
          go_wp2_with (first
            | (go_at_call_of 23 (Value.float FloatKind.f64 r); refine (abs_any r hrl _).mono ?_; rintro e w' ⟨rfl, rfl⟩)
            | (go_at_call_of 23 (Value.float FloatKind.f64 x); refine (abs_any x hx _).mono ?_; rintro e w' ⟨rfl, rfl⟩)
            | (go_at_call 36; refine (cl _).mono ?_; rintro e w2 ⟨d, rfl, hd, b2⟩))
          have HB2 := hB1.out.trans (b2.mono hB1.out.size)
          go_roundg (xs.length - (k + 1))
          case measure => rw [HG.out]; omega
          case rel => exact ⟨k + 1, _, _, by omega, rfl, rfl, rfl, by go_num, HT, hHC.out d _ hd, opW_below .add _ _ HB2⟩
    · have e : xs.take k = xs := List.take_of_length_le (by omega)
      have HN : Hid (NR (keptO xs) (opR .add r q wr)) := (show NR _ _ by
        unfold keptO
        have h := opO_NR (op := .add) (Or.inl rfl) hN.out hQ.out wr
        rw [e] at h
        exact h)
      have HB : Hid (Below w.heap.size w (opW .add r q wr)) := opW_below .add r q hBl.out
      have i1 : ¬ (k : Int) < (xs.length : Int) := by omega
      clear hN hQ e
      go_wp2
      go_ret
      exact ⟨_, rfl, HN.out, HB.out⟩
end Go.Proofs.YtfhejejfeffdcaaDoor

namespace Go.Proofs.YtfhejejfeffdcaaDoor
open Go.RowKit

end Go.Proofs.YtfhejejfeffdcaaDoor

namespace Go.Proofs.YtfhejejfeffdcaaDoor
open Go.RowKit

theorem GRow.take {w : World} {ao : Option Addr} {xs : List Nat} (h : GRow w ao xs) (n : Nat) : GRow w ao (xs.take n) := by
  rcases h with h | ⟨b, off, rfl, hc⟩
  · left
    rw [List.length_take]; omega
  · right
    refine ⟨b, off, rfl, fun j hj => ?_⟩
    rw [List.length_take] at hj
    rw [hc j (by omega)]
    have e : (xs.take n).getD j 0 = xs.getD j 0 := by
      simp [List.getD, show j < n by omega]
    rw [e]
theorem GRow.drop {w : World} {b off : Nat} {xs : List Nat} (hc : ∀ j, j < xs.length → w.cell? ⟨b, off + j, none⟩ = some (.float .f64 (xs.getD j 0))) (k : Nat) : GRow w (some ⟨b, off + k, none⟩) (xs.drop k) := by
  right
  refine ⟨b, off + k, rfl, fun j hj => ?_⟩
  rw [List.length_drop] at hj
  have e : (xs.drop k).getD j 0 = xs.getD (k + j) 0 := by
    simp [List.getD, List.getElem?_drop]
  rw [e, ← hc (k + j) (by omega), Nat.add_assoc]
theorem FW.take {xs : List Nat} (h : FW xs) (n : Nat) : FW (xs.take n) := fun x hx => h x (List.mem_of_mem_take hx)
theorem FW.drop {xs : List Nat} (h : FW xs) (n : Nat) : FW (xs.drop n) := fun x hx => h x (List.mem_of_mem_drop hx)
set_option maxHeartbeats 2000000 in
theorem pair_any : ∀ (n : Nat) (xs : List Nat) (ao : Option Addr) (cap : Nat) (w : World), xs.length ≤ n → GRow w ao xs → FW xs → xs.length ≤ cap → cap ≤ 9223372036854775807 →
    Calls Tryd.prog 15 #[.slice ao xs.length cap] w fun e w' => ∃ r, e = .returned (.float .f64 r) ∧ NR (pairF n xs) r ∧ Below w.heap.size w w'
  | 0, xs, ao, cap, w, hl, hr, hF, hc, hn => by
    have e0 : ((xs.length : Int) == 0) = true := by simp; exact List.eq_nil_of_length_eq_zero (by omega)
    go_enter Tryd.func15, Tryd.ntmps15
    go_wp2
    go_ret
    exact ⟨_, rfl, ⟨by omega, rfl⟩, Below.refl _ _⟩
  | n + 1, [], ao, cap, w, hl, hr, hF, hc, hn => by
    go_enter Tryd.func15, Tryd.ntmps15
    go_wp2
    go_ret
    exact ⟨_, rfl, ⟨by omega, rfl⟩, Below.refl _ _⟩
  | n + 1, [x], ao, cap, w, hl, hr, hF, hc, hn => by
    rcases hr with h | ⟨b, off, rfl, hcell⟩
    · cases h
    · have g0 := hcell 0 (by simp)
      simp only [Nat.add_zero, List.getD_cons_zero] at g0
      have hx : x < 18446744073709551616 := hF x (by simp)
      have HX : Hid (NR (pairF (n + 1) [x]) x) := (show NR _ _ from toO_NR hx)
      clear hcell
      go_enter Tryd.func15, Tryd.ntmps15
      go_wp2
      go_ret
      exact ⟨_, rfl, HX.out, Below.refl _ _⟩
  | n + 1, x :: y :: zs, ao, cap, w, hl, hr, hF, hc, hn => by
    obtain ⟨xs, exs⟩ : ∃ xs, x :: y :: zs = xs := ⟨_, rfl⟩
    have hlen : 2 ≤ xs.length := by rw [← exs]; simp
    have hp : pairF (n + 1) xs = opO .add (pairF n (xs.take (xs.length / 2))) (pairF n (xs.drop (xs.length / 2))) := by rw [← exs]; rfl
    rw [exs] at hl hr hF hc ⊢
    rw [hp]
    clear hp exs
    rcases hr with h | ⟨b, off, rfl, hcell⟩
    · omega
    · obtain ⟨k, hk⟩ : ∃ k, xs.length / 2 = k := ⟨_, rfl⟩
      rw [hk]
      have hr1 : GRow w (some ⟨b, off, none⟩) (xs.take k) := GRow.take (Or.inr ⟨b, off, rfl, hcell⟩) k
      have hr2 := GRow.drop hcell k
      have l1 : (xs.take k).length = k := by rw [List.length_take]; omega
      have l2 : (xs.drop k).length = xs.length - k := List.length_drop
      have i1 := fun w h => pair_any n (xs.take k) (some ⟨b, off, none⟩) cap w (by omega) h (hF.take k) (by omega) hn
      have i2 := fun w h => pair_any n (xs.drop k) (some ⟨b, off + k, none⟩) (cap - k) w (by omega) h (hF.drop k) (by omega) (by omega)
      rw [l1] at i1
      rw [l2] at i2
      have h1 := fun x y w => run_op4 (P := Tryd.prog) (op := .add) (Or.inl rfl) 25 x y w
      have hcv := conv64
      have e0 : ((xs.length : Int) == 0) = false := by simp; intro h; rw [h] at hlen; simp at hlen
      have e1 : ((xs.length : Int) == 1) = false := by simp; omega
      have hq : (xs.length : Int).tdiv 2 = (k : Int) := by rw [Int.tdiv_eq_ediv_of_nonneg (by omega)]; omega
      have hkc : (k : Int) ≤ (cap : Int) := by omega
      have hkl : (k : Int) ≤ (xs.length : Int) := by omega
      have k1 : 1 ≤ k := by omega
      clear hcell l1 l2 hF
      go_enter Tryd.func15, Tryd.ntmps15
      go_wp2
      go_region_with
        (first
          | (go_at_call_of 15 (Value.slice (some ⟨b, off, none⟩) k cap); refine (i1 _ (hr1.below z1)).mono ?_; rintro e x2 ⟨s1, rfl, n1, y2⟩; have z2 := z1.trans (y2.mono z1.size))
          | (go_at_call_of 15 (Value.slice (some ⟨b, off + k, none⟩) (xs.length - k) (cap - k)); refine (i2 _ (hr2.below z1)).mono ?_; rintro e x2 ⟨s2, rfl, n2, y2⟩; have z2 := z1.trans (y2.mono z1.size))
          | (go_at_call_of 15 (Value.slice (some ⟨b, off, none⟩) k cap); refine (i1 w.drew hr1).mono ?_; rintro e x1 ⟨s1, rfl, n1, y1⟩; have z1 : Below w.heap.size w x1 := ⟨y1.os, y1.tape, y1.output, y1.size, y1.block⟩)
          | (go_at_call_of 15 (Value.slice (some ⟨b, off + k, none⟩) (xs.length - k) (cap - k)); refine (i2 w.drew hr2).mono ?_; rintro e x1 ⟨s2, rfl, n2, y1⟩; have z1 : Below w.heap.size w x1 := ⟨y1.os, y1.tape, y1.output, y1.size, y1.block⟩))
      all_goals
        go_wp2
        go_ret
        exact ⟨_, rfl, opO_NR (Or.inl rfl) n1 n2 _, opW_below .add _ _ z2⟩
end Go.Proofs.YtfhejejfeffdcaaDoor

namespace Go.Proofs.YtfhejejfeffdcaaDoor
open Go.RowKit

set_option maxHeartbeats 1000000 in
theorem allfin_any (xs : List Nat) (ao : Option Addr) (cap : Nat) (w : World) (hr : GRow w ao xs) (hF : FW xs) (hn : xs.length ≤ 1125899906842624) :
    Calls Tryd.prog 17 #[.slice ao xs.length cap] w fun e w' => e = .returned (.bool (xs.all finB)) ∧ w' = w := by
  go_enter Tryd.func17, Tryd.ntmps17
  go_wp2
  go_loopg [3, 6] xs.length (fun g _ i wr => ∃ k : Nat, k ≤ xs.length ∧ g = xs.length - k ∧ i = .int .i64 k ∧ Hid (∀ j, j < k → finB (xs.getD j 0) = true) ∧ wr = w)
  case atStart => exact ⟨0, Nat.zero_le _, rfl, rfl, fun j h => by omega, rfl⟩
  case round =>
    obtain ⟨k, hk, hg, rfl, hz, rfl⟩ := hrel
    have HG : Hid (gk = xs.length - k) := hg
    clear hg
    by_cases hlt : k < xs.length
    · rcases hr with h | ⟨b, off, rfl, hc⟩
      · omega
      · have g1 := hc k hlt
        have hx := hF.at hlt
        obtain ⟨x, ex⟩ : ∃ x, xs.getD k 0 = x := ⟨_, rfl⟩
        rw [ex] at g1 hx
        have hf := fin_le x
        have i1 : (k : Int) < (xs.length : Int) := by omega
        cases fx : finB x <;> rw [fx] at hf
        · have HE : Hid (xs.all finB = false) := (show xs.all finB = false by
            rw [List.all_eq_false]
            refine ⟨x, ?_, by rw [fx]; decide⟩
            rw [← ex, getD_at hlt]
            exact List.getElem_mem hlt)
          clear hc ex hz
          go_wp2_with (go_at_call 23; refine (abs_any x hx _).mono ?_; rintro e w' ⟨rfl, rfl⟩)
          go_ret
          exact ⟨by rw [HE.out]; rfl, rfl⟩
        · have HZ : Hid (∀ j, j < k + 1 → finB (xs.getD j 0) = true) := fun j h => by
            by_cases e : j = k
            · rw [e, ex]; exact fx
            · exact hz.out j (by omega)
          clear hc ex hz
          go_wp2_with (go_at_call 23; refine (abs_any x hx _).mono ?_; rintro e w' ⟨rfl, rfl⟩)
          go_roundg (xs.length - (k + 1))
          case measure => rw [HG.out]; omega
          case rel => exact ⟨k + 1, by omega, rfl, by go_num, HZ, rfl⟩
    · have HE : Hid (xs.all finB = true) := (show xs.all finB = true by
        rw [List.all_eq_true]
        intro x hx
        obtain ⟨j, hj, e⟩ := List.mem_iff_getElem.1 hx
        have := hz.out j (by omega)
        rw [getD_at hj, e] at this
        exact this)
      have i1 : ¬ (k : Int) < (xs.length : Int) := by omega
      clear hz
      go_wp2
      go_ret
      exact ⟨by rw [HE.out]; rfl, rfl⟩
theorem few_len (xs : List Nat) : (xs.take 4096).length = if 4096 < xs.length then 4096 else xs.length := by rw [List.length_take]; split <;> omega
/-- What a literal list's cells are. -/
theorem three_row (w : World) (x y z : Nat) (t : TypeId) : GRow (w.alloc (.cells #[.float .f64 x, .float .f64 y, .float .f64 z] t)) (some ⟨w.heap.size, 0, none⟩) [x, y, z] := by
  right
  refine ⟨w.heap.size, 0, rfl, fun j hj => ?_⟩
  have h3 : j < 3 := by simpa using hj
  rcases (show j = 0 ∨ j = 1 ∨ j = 2 by omega) with rfl | rfl | rfl <;> simp [go_sem]
set_option maxHeartbeats 400000 in
theorem twosum_lit (a b s p q x y r : Nat) (h1 : floatBits .add .f64 a b = some s) (h2 : floatBits .sub .f64 s a = some p) (h3 : floatBits .sub .f64 s p = some q) (h4 : floatBits .sub .f64 a q = some x) (h5 : floatBits .sub .f64 b p = some y) (h6 : floatBits .add .f64 x y = some r) (w : World) :
    Calls Tryd.prog 12 #[.float .f64 a, .float .f64 b] w fun e w' => e = .returned (.tuple #[.float .f64 s, .float .f64 r]) ∧ w' = w := by
  have o1 := fun w => run_float_arith (P := Tryd.prog) w .add 25 .f64 _ _ _ h1
  have o2 := fun w => run_float_arith (P := Tryd.prog) w .sub 25 .f64 _ _ _ h2
  have o3 := fun w => run_float_arith (P := Tryd.prog) w .sub 25 .f64 _ _ _ h3
  have o4 := fun w => run_float_arith (P := Tryd.prog) w .sub 25 .f64 _ _ _ h4
  have o5 := fun w => run_float_arith (P := Tryd.prog) w .sub 25 .f64 _ _ _ h5
  have o6 := fun w => run_float_arith (P := Tryd.prog) w .add 25 .f64 _ _ _ h6
  have hcv := conv64
  clear h1 h2 h3 h4 h5 h6
  go_enter Tryd.func12, Tryd.ntmps12
  go_wp2
  exact bodyPost_ret (v := .tuple #[.float .f64 s, .float .f64 r]) (by simp [results, Tryd.results12, go_sem]) rfl ⟨rfl, rfl⟩
end Go.Proofs.YtfhejejfeffdcaaDoor

namespace Go.Proofs.YtfhejejfeffdcaaDoor
open Go.RowKit

theorem two_row (w : World) (x y : Nat) (t : TypeId) : GRow (w.alloc (.cells #[.float .f64 x, .float .f64 y] t)) (some ⟨w.heap.size, 0, none⟩) [x, y] := by
  right
  refine ⟨w.heap.size, 0, rfl, fun j hj => ?_⟩
  have h2 : j < 2 := by simpa using hj
  rcases (show j = 0 ∨ j = 1 by omega) with rfl | rfl <;> simp [go_sem]
def nearS (k : Nat) : Nat := if k = 0 then 0 else if k = 1 then 4607182418800017408 else if k = 2 then 4611686018427387904 else 4613937818241073152
theorem naive_three : naiveO [4607182418800017408, 4607182418800017408, 13830554455654793216] = some 4607182418800017408 := by kernel_rfl
set_option maxRecDepth 100000 in
set_option maxHeartbeats 2000000 in
theorem near_lit (B : Nat) (w : World) (hr : GRow w (some ⟨B, 0, none⟩) [4607182418800017408, 4607182418800017408, 13830554455654793216]) :
    Calls Tryd.prog 13 #[.slice (some ⟨B, 0, none⟩) 3 3] w fun e w' => e = .returned (.tuple #[.float .f64 4607182418800017408, .float .f64 4387068987012284416, .int .i64 0]) ∧ Below w.heap.size w w' := by
  have hF : FW [4607182418800017408, 4607182418800017408, 13830554455654793216] := by intro x hx; simp at hx; omega
  have ca := allfin_any _ (some ⟨B, 0, none⟩) 3 w hr hF (by simp)
  rw [show List.all [4607182418800017408, 4607182418800017408, 13830554455654793216] finB = true by kernel_rfl] at ca
  have cn := naive_any _ (some ⟨B, 0, none⟩) 3 w hr hF (by simp)
  rw [naive_three] at cn
  have a1 := radd_gen 0 4607182418800017408 2 (by omega) (by omega) (by kernel_rfl) (by kernel_rfl)
  have a2 := radd_gen 4607182418800017408 4607182418800017408 2 (by omega) (by omega) (by kernel_rfl) (by kernel_rfl)
  have a3 := radd_gen 4611686018427387904 4607182418800017408 2 (by omega) (by omega) (by kernel_rfl) (by kernel_rfl)
  rw [show addV 0 4607182418800017408 2 = 4607182418800017408 by kernel_rfl] at a1
  rw [show addV 4607182418800017408 4607182418800017408 2 = 4611686018427387904 by kernel_rfl] at a2
  rw [show addV 4611686018427387904 4607182418800017408 2 = 4613937818241073152 by kernel_rfl] at a3
  have b1 := abs_any 4607182418800017408 (by omega)
  have b2 := abs_any 13830554455654793216 (by omega)
  rw [show rung 4607182418800017408 = 4607182418800017408 by kernel_rfl] at b1
  rw [show rung 13830554455654793216 = 4607182418800017408 by kernel_rfl] at b2
  have o1 := fun w => run_float_arith (P := Tryd.prog) w .mul 25 .f64 4613937818241073152 4372995238176751616 4379750637617807360 (by kernel_rfl)
  have c1 : floatOfInt .f64 3 = 4613937818241073152 := by kernel_rfl
  have hcv := conv64
  have m1 := rmul_great 4379750637617807360 4613937818241073152 4387068987012284416 0 2 (by omega) (by omega) (by kernel_rfl) (by kernel_rfl) (by kernel_rfl) (by omega) (by kernel_rfl) (by kernel_rfl) (by omega)
  rw [show stepF 4387068987012284416 (signF 0) 2 = 4387068987012284416 by kernel_rfl] at m1
  have hF2 : FW [4607182418800017408, 4387068987012284416] := by intro x hx; simp at hx; omega
  have cb := fun W => allfin_any _ (some ⟨World.heap W |>.size, 0, none⟩) 2 _ (two_row W 4607182418800017408 4387068987012284416 25) hF2 (by simp)
  rw [show List.all [4607182418800017408, 4387068987012284416] finB = true by kernel_rfl] at cb
  simp only [List.length_cons, List.length_nil, Nat.zero_add, Nat.reduceAdd] at ca cn cb
  rcases hr with h | ⟨b, off, e, hc⟩
  · cases h
  have eb : b = B ∧ off = 0 := by cases e; exact ⟨rfl, rfl⟩
  obtain ⟨rfl, rfl⟩ := eb
  have g0 := hc 0 (by simp)
  have g1 := hc 1 (by simp)
  have g2 := hc 2 (by simp)
  simp only [Nat.zero_add, List.getD_cons_zero, List.getD_cons_succ] at g0 g1 g2
  clear hc e hF hF2
  go_enter Tryd.func13, Tryd.ntmps13
  go_upto_region 4 with (go_at_call 17; refine ca.mono ?_; rintro e wz ⟨rfl, rfl⟩)
  go_wp2
  go_loopg [5, 6, 15] 3 (fun g s _ i wr => ∃ k : Nat, k ≤ 3 ∧ g = 3 - k ∧ s = .float .f64 (nearS k) ∧ i = .int .i64 k ∧ wr = wz)
  case atStart => exact ⟨0, by omega, rfl, rfl, rfl, rfl⟩
  case round =>
    obtain ⟨k, hk, hg, rfl, rfl, rfl⟩ := hrel
    have HG : Hid (gk = 3 - k) := hg
    clear hg
    rcases (show k = 0 ∨ k = 1 ∨ k = 2 ∨ k = 3 by omega) with rfl | rfl | rfl | rfl
    · rw [show nearS 0 = 0 from rfl]
      go_wp2_with (first | (go_at_call 23; refine (b1 _).mono ?_; rintro e w' ⟨rfl, rfl⟩) | (go_at_call 32; refine (a1 _).mono ?_; rintro e w' ⟨rfl, rfl⟩))
      go_roundg 2
      case measure => rw [HG.out]; omega
      case rel => exact ⟨1, by omega, rfl, rfl, rfl, rfl⟩
    · rw [show nearS 1 = 4607182418800017408 from rfl]
      go_wp2_with (first | (go_at_call 23; refine (b1 _).mono ?_; rintro e w' ⟨rfl, rfl⟩) | (go_at_call 32; refine (a2 _).mono ?_; rintro e w' ⟨rfl, rfl⟩))
      go_roundg 1
      case measure => rw [HG.out]; omega
      case rel => exact ⟨2, by omega, rfl, rfl, rfl, rfl⟩
    · rw [show nearS 2 = 4611686018427387904 from rfl]
      go_wp2_with (first | (go_at_call 23; refine (b2 _).mono ?_; rintro e w' ⟨rfl, rfl⟩) | (go_at_call 32; refine (a3 _).mono ?_; rintro e w' ⟨rfl, rfl⟩))
      go_roundg 0
      case measure => rw [HG.out]; omega
      case rel => exact ⟨3, by omega, rfl, rfl, rfl, rfl⟩
    · rw [show nearS 3 = 4613937818241073152 from rfl]
      go_wp2_with (first
        | (go_at_call 14; refine cn.mono ?_; rintro e w1 ⟨r, rfl, hN, b3⟩; obtain rfl : r = 4607182418800017408 := hN.2)
        | (go_at_call 33; refine (m1 _).mono ?_; rintro e w' ⟨rfl, rfl⟩)
        | (go_at_call 17; refine (cb _).mono ?_; rintro e w' ⟨rfl, rfl⟩))
      exact bodyPost_ret (v := .tuple #[.float .f64 4607182418800017408, .float .f64 4387068987012284416, .int .i64 0]) (by simp [results, Tryd.results13, go_sem]) rfl ⟨rfl, b3.alloc b3.size _⟩
end Go.Proofs.YtfhejejfeffdcaaDoor

namespace Go.Proofs.YtfhejejfeffdcaaDoor
open Go.RowKit

theorem sbox {w w1 : World} {x0 x1 x2 : Value} {s : TypeId} (hb : Below (w.alloc (.cells #[x0, x1, x2] s)).heap.size (w.alloc (.cells #[x0, x1, x2] s)) w1) :
    (w1.cell? ⟨w.heap.size, 0, none⟩ = some x0 ∧ w1.cell? ⟨w.heap.size, 1, none⟩ = some x1 ∧ w1.cell? ⟨w.heap.size, 2, none⟩ = some x2) ∧
    (w1.frozen? ⟨w.heap.size, 0, none⟩ = false ∧ w1.frozen? ⟨w.heap.size, 1, none⟩ = false ∧ w1.frozen? ⟨w.heap.size, 2, none⟩ = false) ∧ Below w.heap.size w w1 := by
  have h := fun (o : Nat) => hb.cell (p := ⟨w.heap.size, o, none⟩) (by simp)
  have g := fun (o : Nat) => hb.frozen (p := ⟨w.heap.size, o, none⟩) (by simp)
  refine ⟨⟨?_, ?_, ?_⟩, ⟨?_, ?_, ?_⟩, ((Below.refl _ _).alloc (Nat.le_refl _) _).trans (hb.mono (by go_simp))⟩
  · rw [h]; simp [go_sem]
  · rw [h]; simp [go_sem]
  · rw [h]; simp [go_sem]
  · rw [g]; simp [go_sem]
  · rw [g]; simp [go_sem]
  · rw [g]; simp [go_sem]
set_option maxHeartbeats 1000000 in
theorem sexact_any (x : Nat) (D : Dy) (hx : x < 18446744073709551616) (eD : ofD x = (D, 0)) (w : World) (hT : TabW w) :
    Calls Tryd.prog 20 #[.float .f64 x] w (GaveD w D) := by
  have ox := fun w h => Of_any x hx w h
  rw [eD] at ox
  clear eD
  go_enter Tryd.func20, Tryd.ntmps20
  go_upto_region 2 with (go_at_call 22; refine (ox _ (tabW_alloc hT _)).mono ?_; rintro e w1 ⟨ax, cx, rfl, r1, f1, b1⟩)
  have B6 := b1.alloc b1.size (.cells #[.bool D.neg, .slice ax D.mag.length cx, .int .i64 D.exp] 32)
  obtain ⟨⟨c0, c1, c2⟩, ⟨g0, g1, g2⟩, B7⟩ := sbox B6
  have E6 := Hd.new (cap := cx) r1
  have e0 := E6.c0
  have e1 := E6.c1
  have e2 := E6.c2
  have hfr : Frs (w.heap.size + 1) ax := f1.mono (by simp)
  go_wp2
  exact bodyPost_ret (v := .agg #[.bool D.neg, .slice ax D.mag.length cx, .int .i64 D.exp]) (by simp [results, Tryd.results20, go_sem, c0, c1, c2]) rfl ⟨ax, cx, rfl, (((E6.row).box hfr (by omega) _ _).box hfr (by omega) _ _).box hfr (by omega) _ _, hfr.mono (by omega), ((B7.setCell (Nat.le_refl _) _).setCell (Nat.le_refl _) _).setCell (Nat.le_refl _) _⟩
set_option maxHeartbeats 1000000 in
theorem exact1_any (xs : List Nat) (b off cap B k x : Nat) (D : Dy) (ex : xs.getD k 0 = x) (hx : x < 18446744073709551616) (eD : ofD x = (D, 0)) (w : World) (hT : TabW w) (hc : w.cell? ⟨b, off + k, none⟩ = some (.float .f64 (xs.getD k 0))) (hk : k < xs.length) (hB : w.cell? ⟨B, 0, none⟩ = some (.slice (some ⟨b, off, none⟩) xs.length cap)) :
    Calls Tryd.prog 19 #[.int .i64 k, .pointer (some ⟨B, 0, none⟩)] w (GaveD w D) := by
  have ce := fun w h => sexact_any x D hx eD w h
  rw [ex] at hc
  have i1 : (k : Int) < (xs.length : Int) := by omega
  have hc2 := cell_alloc hc (.cells #[.bool false, .slice none 0 0, .int .i64 0] 32)
  have hB2 := cell_alloc hB (.cells #[.bool false, .slice none 0 0, .int .i64 0] 32)
  clear ex eD hc hB
  go_enter Tryd.func19, Tryd.ntmps19
  go_wp2_with (go_at_call 20; refine (ce _ (tabW_alloc hT _)).mono ?_; rintro e w1 ⟨ax, cx, rfl, r1, f1, b1⟩; obtain ⟨⟨c0, c1, c2⟩, ⟨g0, g1, g2⟩, B7⟩ := sbox b1)
  have hfr : Frs (w.heap.size + 1) ax := f1.mono (by simp)
  exact bodyPost_ret (v := .agg #[.bool D.neg, .slice ax D.mag.length cx, .int .i64 D.exp]) (by simp [results, Tryd.results19, go_sem, c0, c1, c2]) rfl ⟨ax, cx, rfl, ((r1.box hfr (by omega) _ _).box hfr (by omega) _ _).box hfr (by omega) _ _, hfr.mono (by omega), ((B7.setCell (Nat.le_refl _) _).setCell (Nat.le_refl _) _).setCell (Nat.le_refl _) _⟩
end Go.Proofs.YtfhejejfeffdcaaDoor

namespace Go.Proofs.YtfhejejfeffdcaaDoor
open Go.RowKit

theorem ldrew {w w1 : World} (h : Below w.drew.heap.size w.drew w1) : Below w.heap.size w w1 := ⟨h.os, h.tape, h.output, h.size, h.block⟩
/-- A box of three cells that may be written. -/
def Fz (w : World) (p : Nat) : Prop := w.frozen? ⟨p, 0, none⟩ = false ∧ w.frozen? ⟨p, 1, none⟩ = false ∧ w.frozen? ⟨p, 2, none⟩ = false
theorem Fz.below {w w1 : World} {p : Nat} (h : Fz w p) (hp : p < w.heap.size) (hb : Below w.heap.size w w1) : Fz w1 p := by
  obtain ⟨_, hf⟩ := oldc hb
  exact ⟨(hf _ _ hp).trans h.1, (hf _ _ hp).trans h.2.1, (hf _ _ hp).trans h.2.2⟩
theorem put3 {w : World} {p B : Nat} {a : Option Addr} {c : Nat} {D E : Dy} {ao : Option Addr} {cap : Nat} (h : Hd w p D ao cap) (hz : Fz w p) (hr : LRow w a E.mag) (hf : Frs B a) (hp : p < B) :
    Hd (((w.setCell ⟨p, 0, none⟩ (.bool E.neg)).setCell ⟨p, 1, none⟩ (.slice a E.mag.length c)).setCell ⟨p, 2, none⟩ (.int .i64 E.exp)) p E a c ∧ Fz (((w.setCell ⟨p, 0, none⟩ (.bool E.neg)).setCell ⟨p, 1, none⟩ (.slice a E.mag.length c)).setCell ⟨p, 2, none⟩ (.int .i64 E.exp)) p := by
  have s0 : (w.setCell ⟨p, 0, none⟩ (.bool E.neg)).cell? ⟨p, 0, none⟩ = some (.bool E.neg) := World.cell?_setCell_same w _ _ h.c0
  have s1 : (w.setCell ⟨p, 0, none⟩ (.bool E.neg)).cell? ⟨p, 1, none⟩ = some (.slice ao D.mag.length cap) := (World.cell?_setCell_other w _ _ _ (by simp)).trans h.c1
  have s2 : (w.setCell ⟨p, 0, none⟩ (.bool E.neg)).cell? ⟨p, 2, none⟩ = some (.int .i64 D.exp) := (World.cell?_setCell_other w _ _ _ (by simp)).trans h.c2
  have t0 := (World.cell?_setCell_other _ ⟨p, 1, none⟩ ⟨p, 0, none⟩ (.slice a E.mag.length c) (by simp)).trans s0
  have t1 := World.cell?_setCell_same _ _ (.slice a E.mag.length c) s1
  have t2 := (World.cell?_setCell_other _ ⟨p, 1, none⟩ ⟨p, 2, none⟩ (.slice a E.mag.length c) (by simp)).trans s2
  refine ⟨⟨(World.cell?_setCell_other _ _ _ _ (by simp)).trans t0, (World.cell?_setCell_other _ _ _ _ (by simp)).trans t1, World.cell?_setCell_same _ _ _ t2, ((hr.box hf hp _ _).box hf hp _ _).box hf hp _ _⟩, ?_⟩
  obtain ⟨f0, f1, f2⟩ := hz
  refine ⟨?_, ?_, ?_⟩ <;> simp [go_sem, f0, f1, f2]
set_option maxRecDepth 100000 in
set_option maxHeartbeats 4000000 in
theorem innone_any (xs : List Nat) (ao : Option Addr) (cap B : Nat) (m : Int) (Ds T : Nat → Dy) (w : World) (hT : TabW w) (hr : GRow w ao xs) (hF : FW xs) (hn : xs.length ≤ 1125899906842624) (hB : w.cell? ⟨B, 0, none⟩ = some (.slice ao xs.length cap))
    (hO : ∀ k, k < xs.length → ofD (xs.getD k 0) = (Ds k, 0) ∧ Lm (Ds k).mag) (hT0 : T 0 = dy0) (hA : ∀ k, k < xs.length → addD (T k) (Ds k) = (T (k + 1), 0)) (hL : ∀ k, k ≤ xs.length → Lm (T k).mag) (hR : rightB (T xs.length) = true) :
    Calls Tryd.prog 18 #[.int .i64 xs.length, .int .i8 m, .func (.func 19) #[] #[.pointer (some ⟨B, 0, none⟩)]] w fun e w' => e = .returned (.float .f64 (rndW (T xs.length) m)) ∧ Below w.heap.size w w' := by
  have e0 : (T 0).neg = false ∧ (T 0).mag = [] ∧ (T 0).exp = 0 := by rw [hT0]; exact ⟨rfl, rfl, rfl⟩
  go_enter Tryd.func18, Tryd.ntmps18
  go_wp2
  go_loopg [8, 13] xs.length (fun g _ i wr => ∃ k : Nat, ∃ a c, k ≤ xs.length ∧ g = xs.length - k ∧ i = .int .i64 k ∧ Hid (Hd wr w.heap.size (T k) a c) ∧ Hid (Fz wr w.heap.size) ∧ Hid (Frs (w.heap.size + 1) a) ∧ Hid (Below w.heap.size w wr))
  case atStart =>
    refine ⟨0, none, 0, Nat.zero_le _, rfl, rfl, (show Hd _ _ _ _ _ from ⟨?_, ?_, ?_, Or.inl (by rw [e0.2.1]; rfl)⟩), (show Fz _ _ from ⟨?_, ?_, ?_⟩), Frs.none _, (show Below _ _ _ from (Below.refl _ _).alloc (Nat.le_refl _) _)⟩
    · rw [e0.1]; go_simp
    · rw [e0.2.1]; go_simp
    · rw [e0.2.2]; go_simp
    all_goals go_simp
  case round =>
    obtain ⟨k, a, c, hk, hg, rfl, hH, hZ, hfr, hBl⟩ := hrel
    have HG : Hid (gk = xs.length - k) := hg
    clear hg
    have hP : w.heap.size < wr.heap.size := World.block_lt_of_cell? wr _ hH.out.c0
    by_cases hlt : k < xs.length
    · have hBw : wr.cell? ⟨B, 0, none⟩ = some (.slice ao xs.length cap) := by
        rw [hBl.out.cell (World.block_lt_of_cell? w _ hB)]; exact hB
      rcases hr.below hBl.out with h | ⟨b, off, rfl, hc⟩
      · omega
      · have hTr := tabW_below hT hBl.out
        have ce := exact1_any xs b off cap B k _ (Ds k) rfl (hF.at hlt) (hO k hlt).1 wr.drew hTr (hc k hlt) hlt hBw
        have oa := fun ao bo cap bcap w h1 h2 h3 => Add_any (T k) (Ds k) ao bo cap bcap w h1 h2 (hL k hk) (hO k hlt).2 h3
        rw [hA k hlt] at oa
        have HH := hH.out
        have HZ := hZ.out
        have HF := hfr.out
        have HB := hBl.out
        have k0 := HH.c0
        have k1 := HH.c1
        have k2 := HH.c2
        obtain ⟨f0, f1, f2⟩ := hZ.out
        have i1 : (k : Int) < (xs.length : Int) := by omega
        clear hc hO hA hL hR hF hBw
        generalize Ds k = D at *
        go_wp2
        go_region_with
          (first
            | (go_at_call 19; refine ce.mono ?_; rintro e x1 ⟨ax, cx, rfl, r1, _, y1⟩; have z1 := ldrew y1; have H1 := HH.below z1; have k0 := H1.c0; have k1 := H1.c1; have k2 := H1.c2; have T1 := tabW_below hTr z1)
            | (go_at_call 24; refine (oa _ _ _ _ _ H1.row r1 T1).mono ?_; rintro e x2 ⟨ae, cae, rfl, r2, fr2, y2⟩; have z2 := z1.trans (y2.mono z1.size); have H2 := HH.below z2; have k0 := H2.c0; have k1 := H2.c1; have k2 := H2.c2; have Z2 := HZ.below hP z2; obtain ⟨f0, f1, f2⟩ := Z2; have Z2 := HZ.below hP z2))
        all_goals
          have hfe : Frs (w.heap.size + 1) ae := fr2.mono (by have := z1.size; omega)
          have hBz := HB.trans (z2.mono HB.size)
          have P3 := put3 (c := cae) H2 Z2 r2 hfe (by omega)
          go_wp2
          go_roundg (xs.length - (k + 1))
          case measure => rw [HG.out]; omega
          case rel => exact ⟨k + 1, ae, cae, by omega, rfl, by go_num, P3.1, P3.2, hfe, ((hBz.setCell (Nat.le_refl _) _).setCell (Nat.le_refl _) _).setCell (Nat.le_refl _) _⟩
    · have ek : k = xs.length := by omega
      subst ek
      have hRo := fun w h => Round_ok (T xs.length).neg (T xs.length).mag (T xs.length).exp a c m w h (hL _ (Nat.le_refl _)) hR
      have HH := hH.out
      have k0 := HH.c0
      have k1 := HH.c1
      have k2 := HH.c2
      have hrow := HH.row
      have HB := hBl.out
      have i1 : ¬ (xs.length : Int) < (xs.length : Int) := by omega
      clear hO hA hL hR hF
      go_wp2_with (go_at_call 7; refine (hRo _ hrow).mono ?_; rintro e w2 ⟨rfl, b2⟩)
      go_ret
      exact ⟨rfl, HB.trans (b2.mono HB.size)⟩
end Go.Proofs.YtfhejejfeffdcaaDoor

namespace Go.Proofs.YtfhejejfeffdcaaDoor
open Go.RowKit

def lA : List Nat := [4607182418800017408, 4877398396442247168, 14100770433297022976]
def lD (k : Nat) : Dy := if k = 0 then ⟨false, [1], 0⟩ else if k = 1 then ⟨false, [1], 60⟩ else ⟨true, [1], 60⟩
def lT (k : Nat) : Dy := if k = 0 then dy0 else if k = 1 then ⟨false, [1], 0⟩ else if k = 2 then ⟨false, [1152921504606846977], 0⟩ else ⟨false, [1], 0⟩
/-- A sum in units of the lesser power. -/
theorem addD_low {a b : Dy} (ha : rightB a = true) (hb : rightB b = true) (p q : Nat) (e : Int) (he : -65536 ≤ e) (hp : a.exp = e + p) (hq : b.exp = e + q) : addD a b = nrm (sv a * 2 ^ p + sv b * 2 ^ q) e := by
  unfold addD
  rw [ha, hb]
  simp only [Bool.and_self, if_true]
  have := nrm_shift (sv a * 2 ^ p + sv b * 2 ^ q) e (e + 65536).toNat
  rw [show e - (((e + 65536).toNat : Nat) : Int) = -65536 by omega] at this
  rw [← this]
  unfold qd
  rw [hp, hq, show (e + (p : Int) + 65536).toNat = p + (e + 65536).toNat by omega, show (e + (q : Int) + 65536).toNat = q + (e + 65536).toNat by omega, pow_add_int, pow_add_int, Int.add_mul, Int.mul_assoc, Int.mul_assoc]
theorem lA_a1 : addD dy0 ⟨false, [1], 0⟩ = (⟨false, [1], 0⟩, 0) := by
  rw [addD_low (a := dy0) (by kernel_rfl) (by kernel_rfl) 0 0 0 (by omega) rfl rfl]
  kernel_rfl
theorem lA_a2 : addD ⟨false, [1], 0⟩ ⟨false, [1], 60⟩ = (⟨false, [1152921504606846977], 0⟩, 0) := by
  rw [addD_low (a := ⟨false, [1], 0⟩) (b := ⟨false, [1], 60⟩) (by kernel_rfl) (by kernel_rfl) 0 60 0 (by omega) rfl rfl]
  kernel_rfl
theorem lA_a3 : addD ⟨false, [1152921504606846977], 0⟩ ⟨true, [1], 60⟩ = (⟨false, [1], 0⟩, 0) := by
  rw [addD_low (a := ⟨false, [1152921504606846977], 0⟩) (b := ⟨true, [1], 60⟩) (by kernel_rfl) (by kernel_rfl) 0 60 0 (by omega) rfl rfl]
  kernel_rfl
end Go.Proofs.YtfhejejfeffdcaaDoor

namespace Go.Proofs.YtfhejejfeffdcaaDoor
open Go.RowKit

theorem lA_of : ofD 4607182418800017408 = (⟨false, [1], 0⟩, 0) ∧ ofD 4877398396442247168 = (⟨false, [1], 60⟩, 0) ∧ ofD 14100770433297022976 = (⟨true, [1], 60⟩, 0) := ⟨by kernel_rfl, by kernel_rfl, by kernel_rfl⟩
theorem lA_add : addD dy0 ⟨false, [1], 0⟩ = (⟨false, [1], 0⟩, 0) ∧ addD ⟨false, [1], 0⟩ ⟨false, [1], 60⟩ = (⟨false, [1152921504606846977], 0⟩, 0) ∧ addD ⟨false, [1152921504606846977], 0⟩ ⟨true, [1], 60⟩ = (⟨false, [1], 0⟩, 0) := ⟨lA_a1, lA_a2, lA_a3⟩
theorem lA_fw : FW lA := by intro x hx; simp [lA] at hx; omega
set_option maxRecDepth 100000 in
set_option maxHeartbeats 1000000 in
theorem exact_lit (b : Nat) (w : World) (hT : TabW w) (hr : GRow w (some ⟨b, 0, none⟩) lA) :
    Calls Tryd.prog 5 #[.slice (some ⟨b, 0, none⟩) 3 3, .int .i8 0] w fun e w' => e = .returned (.tuple #[.float .f64 4607182418800017408, .int .i64 0]) ∧ Below w.heap.size w w' := by
  have hR : rndW (lT lA.length) 0 = 4607182418800017408 := by kernel_rfl
  have ca := fun w h => allfin_any lA (some ⟨b, 0, none⟩) 3 w h lA_fw (by decide)
  rw [show lA.all finB = true by kernel_rfl] at ca
  have ci := fun B w h1 h2 h3 => innone_any lA (some ⟨b, 0, none⟩) 3 B 0 lD lT w h1 h2 lA_fw (by decide) h3
    (fun k hk => by
      have h3 : k < 3 := hk
      obtain ⟨o1, o2, o3⟩ := lA_of
      rcases (show k = 0 ∨ k = 1 ∨ k = 2 by omega) with rfl | rfl | rfl
      · exact ⟨o1, fun y hy => by simp [lD] at hy; omega⟩
      · exact ⟨o2, fun y hy => by simp [lD] at hy; omega⟩
      · exact ⟨o3, fun y hy => by simp [lD] at hy; omega⟩) rfl
    (fun k hk => by
      have h3 : k < 3 := hk
      obtain ⟨o1, o2, o3⟩ := lA_add
      rcases (show k = 0 ∨ k = 1 ∨ k = 2 by omega) with rfl | rfl | rfl
      · exact o1
      · exact o2
      · exact o3)
    (fun k hk => by
      have h3 : k ≤ 3 := hk
      rcases (show k = 0 ∨ k = 1 ∨ k = 2 ∨ k = 3 by omega) with rfl | rfl | rfl | rfl <;> intro y hy <;> simp [lT, dy0] at hy <;> omega) (by kernel_rfl)
  rw [hR] at ci
  have el : lA.length = 3 := rfl
  rw [el] at ca ci
  clear hR el
  generalize lA = l at *
  go_enter Tryd.func5, Tryd.ntmps5
  go_wp2_with (first
    | (go_at_call 17; refine (ca _ (hr.below ((Below.refl _ _).alloc (Nat.le_refl _) _))).mono ?_; rintro e w' ⟨rfl, rfl⟩)
    | (go_at_call 18; refine (ci _ _ (tabW_alloc hT _) (hr.below ((Below.refl _ _).alloc (Nat.le_refl _) _)) (by go_simp)).mono ?_; rintro e w2 ⟨rfl, b2⟩))
  exact bodyPost_ret (v := .tuple #[.float .f64 4607182418800017408, .int .i64 0]) (by simp [results, Tryd.results5, go_sem]) rfl ⟨rfl, ((Below.refl _ _).alloc (Nat.le_refl _) _).trans (b2.mono (by go_simp))⟩
end Go.Proofs.YtfhejejfeffdcaaDoor

namespace Go.Proofs.YtfhejejfeffdcaaDoor
open Go.RowKit

theorem NR_is {v r : Nat} (h : NR (some v) r) : r = v := h.2
theorem lA_naive (b : Nat) (w : World) (hr : GRow w (some ⟨b, 0, none⟩) lA) :
    Calls Tryd.prog 14 #[.slice (some ⟨b, 0, none⟩) 3 3] w fun e w' => e = .returned (.float .f64 0) ∧ Below w.heap.size w w' := by
  refine (naive_any lA (some ⟨b, 0, none⟩) 3 w hr lA_fw (by decide)).mono ?_
  rintro e w' ⟨r, rfl, h, hb⟩
  rw [show naiveO lA = some 0 by kernel_rfl] at h
  exact ⟨by rw [NR_is h], hb⟩
theorem lA_kept (b : Nat) (w : World) (hr : GRow w (some ⟨b, 0, none⟩) lA) :
    Calls Tryd.prog 16 #[.slice (some ⟨b, 0, none⟩) 3 3] w fun e w' => e = .returned (.float .f64 4607182418800017408) ∧ Below w.heap.size w w' := by
  refine (kept_any lA (some ⟨b, 0, none⟩) 3 w hr lA_fw (by decide)).mono ?_
  rintro e w' ⟨r, rfl, h, hb⟩
  rw [show keptO lA = some 4607182418800017408 by kernel_rfl] at h
  exact ⟨by rw [NR_is h], hb⟩
theorem lA_pair (b : Nat) (w : World) (hr : GRow w (some ⟨b, 0, none⟩) lA) :
    Calls Tryd.prog 15 #[.slice (some ⟨b, 0, none⟩) 3 3] w fun e w' => e = .returned (.float .f64 4607182418800017408) ∧ Below w.heap.size w w' := by
  refine (pair_any 3 lA (some ⟨b, 0, none⟩) 3 w (by decide) hr lA_fw (by decide) (by decide)).mono ?_
  rintro e w' ⟨r, rfl, h, hb⟩
  rw [show pairF 3 lA = some 4607182418800017408 by kernel_rfl] at h
  exact ⟨by rw [NR_is h], hb⟩
theorem aw6_two (w : World) : Calls Tryd.prog 12 #[.float .f64 4845873199050653696, .float .f64 4613937818241073152] w fun e w' => e = .returned (.tuple #[.float .f64 4845873199050653698, .float .f64 13830554455654793216]) ∧ w' = w :=
  twosum_lit _ _ 4845873199050653698 4616189618054758400 4845873199050653696 0 13830554455654793216 13830554455654793216 (by kernel_rfl) (by kernel_rfl) (by kernel_rfl) (by kernel_rfl) (by kernel_rfl) (by kernel_rfl) w
set_option maxRecDepth 100000 in
set_option maxHeartbeats 1000000 in
theorem uawake (w : World) (hT : TabW w) :
    Calls Tryd.prog 4 #[] w fun e w' => e = .returned (.bool true) ∧ Below w.heap.size w w' := by
  have q1 : (FloatKind.f64.format.order 0 0 == some .eq) = true := by kernel_rfl
  have q2 : (FloatKind.f64.format.order 4607182418800017408 4607182418800017408 == some .eq) = true := by kernel_rfl
  have q3 : (FloatKind.f64.format.order 4845873199050653698 4845873199050653698 == some .eq) = true := by kernel_rfl
  have q4 : (FloatKind.f64.format.order 13830554455654793216 13830554455654793216 == some .eq) = true := by kernel_rfl
  have q5 : (FloatKind.f64.format.order 4387068987012284416 4387068987012284416 == some .eq) = true := by kernel_rfl
  go_enter Tryd.func4, Tryd.ntmps4
  go_wp2_with (first
    | (go_at_call 5; refine (exact_lit _ _ (tabW_alloc hT _) (three_row _ _ _ _ _)).mono ?_; rintro e w2 ⟨rfl, b2⟩; have g2 := (three_row w 4607182418800017408 4877398396442247168 14100770433297022976 _).below b2; have o2 : Below w.heap.size w w2 := ((Below.refl _ _).alloc (Nat.le_refl _) _).trans (b2.mono (by go_simp)))
    | (go_at_call 12; refine (aw6_two _).mono ?_; rintro e w3 ⟨rfl, h3⟩; subst w3)
    | (go_at_call 13; refine (near_lit _ _ (three_row _ _ _ _ _)).mono ?_; rintro e w4 ⟨rfl, b4⟩; have o4 : Below w2.heap.size w2 w4 := ((Below.refl _ _).alloc (Nat.le_refl _) _).trans (b4.mono (by go_simp)); have g4 := g2.below o4)
    | (go_at_call 14; refine (lA_naive _ _ g4).mono ?_; rintro e w5 ⟨rfl, b5⟩; have g5 := g4.below b5)
    | (go_at_call 15; refine (lA_pair _ _ g5).mono ?_; rintro e w6 ⟨rfl, b6⟩; have g6 := g5.below b6)
    | (go_at_call 16; refine (lA_kept _ _ g6).mono ?_; rintro e w7 ⟨rfl, b7⟩))
  go_ret
  exact ⟨rfl, o2.trans ((o4.trans ((b5.trans ((b6.trans (b7.mono b6.size)).mono b5.size)).mono o4.size)).mono o2.size)⟩
end Go.Proofs.YtfhejejfeffdcaaDoor
