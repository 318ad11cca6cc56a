/- What Dot answers, the program's and the document's. -/
import Derived.Test.YtflbglbhmdpmoaaGreatDoorRA
namespace Go.Proofs.YtflbglbhmdpmoaaGreatDoor
open Go.RowKit

/-- The products of each two, each added to those before it. -/
def dotO (xs ys : List Nat) : Nat → Option Nat
  | 0 => some 0
  | k + 1 => opO .add (dotO xs ys k) (opO .mul (toO (xs.getD k 0)) (toO (ys.getD k 0)))
theorem opM : FourOp .mul := Or.inr (Or.inr (Or.inl rfl))
set_option maxHeartbeats 400000 in
theorem dot1_any (xs ys : List Nat) (b off cap b2 off2 cap2 A B k x y : Nat) (w : World) (ex : xs.getD k 0 = x) (ey : ys.getD k 0 = y) (hx : x < 18446744073709551616) (hy : y < 18446744073709551616) (hc : w.cell? ⟨b, off + k, none⟩ = some (.float .f64 (xs.getD k 0))) (hd : w.cell? ⟨b2, off2 + k, none⟩ = some (.float .f64 (ys.getD k 0))) (hk : k < xs.length) (hl : k < ys.length) (hA : w.cell? ⟨A, 0, none⟩ = some (.slice (some ⟨b, off, none⟩) xs.length cap)) (hB : w.cell? ⟨B, 0, none⟩ = some (.slice (some ⟨b2, off2, none⟩) ys.length cap2)) :
    Calls Tryz.prog 33 #[.int .i64 k, .pointer (some ⟨A, 0, none⟩), .pointer (some ⟨B, 0, none⟩)] w fun e w' => ∃ r, e = .returned (.float .f64 r) ∧ NR (opO .mul (toO x) (toO y)) r ∧ Below w.heap.size w w' := by
  have HN : Hid (∀ W, NR (opO .mul (toO x) (toO y)) (opR .mul x y W)) := fun W => opO_NR opM (toO_NR hx) (toO_NR hy) W
  have HB := (Below.refl w.heap.size w).drew
  rw [ex] at hc
  rw [ey] at hd
  have h1 := fun x y w => run_op4 (P := Tryz.prog) (op := .mul) opM 26 x y w
  have hcv := conv64
  have i1 : (k : Int) < (xs.length : Int) := by omega
  have i2 : (k : Int) < (ys.length : Int) := by omega
  clear ex ey
  go_enter Tryz.func33, Tryz.ntmps33
  go_wp2
  go_region_with (fail)
  all_goals
    go_wp2
    go_ret
    exact ⟨_, rfl, HN.out _, opW_below .mul x y HB⟩
set_option maxHeartbeats 1000000 in
theorem dorder_any (xs ys : List Nat) (ao bo : Option Addr) (cap cap2 A B : Nat) (w : World) (hr : GRow w ao xs) (hs : GRow w bo ys) (hF : FW xs) (hG : FW ys) (hl : ys.length = xs.length) (hn : xs.length ≤ 1125899906842624) (hA : w.cell? ⟨A, 0, none⟩ = some (.slice ao xs.length cap)) (hB : w.cell? ⟨B, 0, none⟩ = some (.slice bo ys.length cap2)) :
    Calls Tryz.prog 32 #[.int .i64 xs.length, .func (.func 33) #[] #[.pointer (some ⟨A, 0, none⟩), .pointer (some ⟨B, 0, none⟩)]] w fun e w' => ∃ r, e = .returned (.float .f64 r) ∧ NR (dotO xs ys xs.length) r ∧ Below w.heap.size w w' := by
  have h1 := fun x y w => run_op4 (P := Tryz.prog) (op := .add) (Or.inl rfl) 26 x y w
  have hcv := conv64
  go_enter Tryz.func32, Tryz.ntmps32
  go_wp2
  go_loopg [5, 6, 8] xs.length (fun g s _ i wr => ∃ k r : Nat, k ≤ xs.length ∧ g = xs.length - k ∧ s = .float .f64 r ∧ i = .int .i64 k ∧ Hid (NR (dotO xs ys k) r) ∧ Hid (Below w.heap.size w wr))
  case atStart => exact ⟨0, 0, Nat.zero_le _, rfl, rfl, rfl, ⟨by omega, rfl⟩, Below.refl _ _⟩
  case round =>
    obtain ⟨k, r, hk, hg, rfl, rfl, hN, hBl⟩ := hrel
    have HG : Hid (gk = xs.length - k) := hg
    clear hg
    by_cases hlt : k < xs.length
    · have hAw : wr.cell? ⟨A, 0, none⟩ = some (.slice ao xs.length cap) := by
        rw [hBl.out.cell (World.block_lt_of_cell? w _ hA)]; exact hA
      have hBw : wr.cell? ⟨B, 0, none⟩ = some (.slice bo ys.length cap2) := by
        rw [hBl.out.cell (World.block_lt_of_cell? w _ hB)]; exact hB
      rcases hr.below hBl.out with h | ⟨b, off, rfl, hc⟩
      · omega
      rcases hs.below hBl.out with h | ⟨b2, off2, rfl, hd⟩
      · omega
      have hlt2 : k < ys.length := by omega
      have hx := hF.at hlt
      have hy := hG.at hlt2
      obtain ⟨x, ex⟩ : ∃ x, xs.getD k 0 = x := ⟨_, rfl⟩
      obtain ⟨y, ey⟩ : ∃ y, ys.getD k 0 = y := ⟨_, rfl⟩
      have hx' : x < 18446744073709551616 := by rw [← ex]; exact hx
      have hy' : y < 18446744073709551616 := by rw [← ey]; exact hy
      have ca := dot1_any xs ys b off cap b2 off2 cap2 A B k x y wr ex ey hx' hy' (hc k hlt) (hd k hlt2) hlt hlt2 hAw hBw
      have HS : Hid (∀ p W, NR (opO .mul (toO x) (toO y)) p → NR (dotO xs ys (k + 1)) (opR .add r p W)) := fun p W hp => by
        rw [dotO, ex, ey]
        exact opO_NR (Or.inl rfl) hN.out hp W
      have i1 : (k : Int) < (xs.length : Int) := by omega
      have HB := hBl.out
      clear hc hd ex ey hN hAw hBw
      go_wp2_with (go_at_call 33; refine ca.mono ?_; rintro e w1 ⟨p, rfl, np, b1⟩; have B1 := HB.trans (b1.mono HB.size))
      go_roundg (xs.length - (k + 1))
      case measure => rw [HG.out]; omega
      case rel => exact ⟨k + 1, _, by omega, rfl, rfl, by go_num, HS.out _ _ np, opW_below .add r p B1⟩
    · have ek : k = xs.length := by omega
      have HN : Hid (NR (dotO xs ys xs.length) r) := (show NR _ _ by rw [← ek]; exact hN.out)
      have i1 : ¬ (k : Int) < (xs.length : Int) := by omega
      clear hN ek
      go_wp2
      go_ret
      exact ⟨_, rfl, HN.out, hBl.out⟩
/-- Two boxes laid one behind the other. -/
theorem two_al {w : World} (x y : Value) (s t : TypeId) : ((w.alloc (.cells #[x] s)).alloc (.cells #[y] t)).cell? ⟨w.heap.size, 0, none⟩ = some x ∧ ((w.alloc (.cells #[x] s)).alloc (.cells #[y] t)).cell? ⟨w.heap.size + 1, 0, none⟩ = some y ∧ Below w.heap.size w ((w.alloc (.cells #[x] s)).alloc (.cells #[y] t)) := by
  refine ⟨by go_simp, by go_simp, ((Below.refl _ _).alloc (Nat.le_refl _) _).alloc (by simp) _⟩
set_option maxHeartbeats 400000 in
theorem dot_any (xs ys : List Nat) (ao bo : Option Addr) (cap cap2 : Nat) (w : World) (hr : GRow w ao xs) (hs : GRow w bo ys) (hF : FW xs) (hG : FW ys) (hl : ys.length = xs.length) (hn : xs.length ≤ 1125899906842624) :
    Calls Tryz.prog 7 #[.slice ao xs.length cap, .slice bo xs.length cap2] w fun e w' => ∃ r, e = .returned (.tuple #[.float .f64 r, .int .i64 0]) ∧ NR (dotO xs ys xs.length) r ∧ Below w.heap.size w w' := by
  have ci := fun A B w h1 h2 h3 h4 => dorder_any xs ys ao bo cap cap2 A B w h1 h2 hF hG hl hn h3 h4
  obtain ⟨t1, t2, t3⟩ := two_al (w := w) (.slice ao xs.length cap) (.slice bo xs.length cap2) 22 22
  have g1 := hr.below t3
  have g2 := hs.below t3
  simp only [hl] at ci
  clear hl
  go_enter Tryz.func7, Tryz.ntmps7
  go_wp2_with (go_at_call 32; refine (ci _ _ _ g1 g2 t1 t2).mono ?_; rintro e w1 ⟨r, rfl, hN, b1⟩)
  exact bodyPost_ret (v := .tuple #[.float .f64 r, .int .i64 0]) (by simp [results, Tryz.results7, go_sem]) rfl ⟨_, rfl, hN, t3.trans (b1.mono t3.size)⟩
set_option maxHeartbeats 400000 in
theorem dot_shape (n k : Nat) (ao bo : Option Addr) (cap cap2 : Nat) (w : World) (hl : k ≠ n) :
    Calls Tryz.prog 7 #[.slice ao n cap, .slice bo k cap2] w fun e w' => e = .returned (.tuple #[.float .f64 0, .int .i64 4]) ∧ Below w.heap.size w w' := by
  obtain ⟨t1, t2, t3⟩ := two_al (w := w) (.slice ao n cap) (.slice bo k cap2) 22 22
  have hI : ¬ (n : Int) = (k : Int) := by omega
  go_enter Tryz.func7, Tryz.ntmps7
  go_wp2
  exact bodyPost_ret (v := .tuple #[.float .f64 0, .int .i64 4]) (by simp [results, Tryz.results7, go_sem]) rfl ⟨rfl, t3⟩
set_option maxHeartbeats 1000000 in
theorem rdot_any (xs ys : List Nat) (ao bo : Option Addr) (cap cap2 : Nat) (w : World) (hr : GRow w ao xs) (hs : GRow w bo ys) (hF : FW xs) (hG : FW ys) (hl : ys.length = xs.length) (hn : xs.length ≤ 1125899906842624) :
    Calls Tryz.prog 8 #[.slice ao xs.length cap, .slice bo xs.length cap2] w fun e w' => ∃ r, e = .returned (.tuple #[.float .f64 r, .int .i64 0]) ∧ NR (dotO xs ys xs.length) r ∧ Below w.heap.size w w' := by
  have h1 := fun x y w => run_op4 (P := Tryz.prog) (op := .add) (Or.inl rfl) 26 x y w
  have h2 := fun x y w => run_op4 (P := Tryz.prog) (op := .mul) opM 26 x y w
  have hcv := conv64
  have HL : Hid (ys.length = xs.length) := hl
  clear hl
  go_enter Tryz.func8, Tryz.ntmps8
  go_wp2
  go_loopg [6, 7, 8] xs.length (fun g s i _ wr => ∃ k r : Nat, k ≤ xs.length ∧ g = xs.length - k ∧ s = .float .f64 r ∧ i = .int .i64 k ∧ Hid (NR (dotO xs ys k) r) ∧ Hid (Below w.heap.size w wr))
  case atStart => exact ⟨0, 0, Nat.zero_le _, rfl, rfl, rfl, ⟨by omega, rfl⟩, Below.refl _ _⟩
  case round =>
    obtain ⟨k, r, hk, hg, rfl, rfl, hN, hBl⟩ := hrel
    have HG : Hid (gk = xs.length - k) := hg
    clear hg
    by_cases hlt : k < xs.length
    · rcases hr.below hBl.out with h | ⟨b, off, rfl, hc⟩
      · omega
      rcases hs.below hBl.out with h | ⟨b2, off2, rfl, hd⟩
      · have := HL.out; omega
      have hlt2 : k < ys.length := by have := HL.out; omega
      have g1 := hc k hlt
      have g2 := hd k hlt2
      have hx := hF.at hlt
      have hy := hG.at hlt2
      obtain ⟨x, ex⟩ : ∃ x, xs.getD k 0 = x := ⟨_, rfl⟩
      obtain ⟨y, ey⟩ : ∃ y, ys.getD k 0 = y := ⟨_, rfl⟩
      rw [ex] at hx g1
      rw [ey] at hy g2
      have HS : Hid (∀ W W', NR (dotO xs ys (k + 1)) (opR .add r (opR .mul x y W) W')) := fun W W' => by
        rw [dotO, ex, ey]
        exact opO_NR (Or.inl rfl) hN.out (opO_NR opM (toO_NR hx) (toO_NR hy) W) W'
      have HB := hBl.out
      have HD := hBl.out.drew
      have i1 : (k : Int) < (xs.length : Int) := by omega
      clear hc hd ex ey hN hlt2
      go_wp2
      go_region_with (fail)
      all_goals
       go_wp2
       go_roundg (xs.length - (k + 1))
       case measure => rw [HG.out]; omega
       case rel => exact ⟨k + 1, _, by omega, rfl, rfl, by go_num, HS.out _ _, opW_below .add _ _ (opW_below .mul x y HD)⟩
    · have ek : k = xs.length := by omega
      have HN : Hid (NR (dotO xs ys xs.length) r) := (show NR _ _ by rw [← ek]; exact hN.out)
      have i1 : ¬ (k : Int) < (xs.length : Int) := by omega
      clear hN ek
      go_wp2
      exact bodyPost_ret (v := .tuple #[.float .f64 r, .int .i64 0]) (by simp [results, Tryz.results8, go_sem]) rfl ⟨_, rfl, HN.out, hBl.out⟩
set_option maxHeartbeats 400000 in
theorem rdot_shape (n k : Nat) (ao bo : Option Addr) (cap cap2 : Nat) (w : World) (hl : k ≠ n) :
    Calls Tryz.prog 8 #[.slice ao n cap, .slice bo k cap2] w fun e w' => e = .returned (.tuple #[.float .f64 0, .int .i64 4]) ∧ Below w.heap.size w w' := by
  have hI : ¬ (n : Int) = (k : Int) := by omega
  go_enter Tryz.func8, Tryz.ntmps8
  go_wp2
  exact bodyPost_ret (v := .tuple #[.float .f64 0, .int .i64 4]) (by simp [results, Tryz.results8, go_sem]) rfl ⟨rfl, Below.refl _ _⟩
end Go.Proofs.YtflbglbhmdpmoaaGreatDoor
