/- What the program's Naive, lost and Kept, and the document's Kept, answer. -/
import Derived.Test.YtdjljbcigobdpaaDoorBb
namespace Go.Proofs.YtdjljbcigobdpaaDoor
open Go.RowKit

set_option maxHeartbeats 400000 in
theorem naive1_any (xs : List Nat) (b off cap B k : Nat) (w : World) (hc : w.cell? ⟨b, off + k, none⟩ = some (.float .f64 (xs.getD k 0))) (hk : k < xs.length) (hB : w.cell? ⟨B, 0, none⟩ = some (.slice (some ⟨b, off, none⟩) xs.length cap)) :
    Calls Tryd.prog 15 #[.int .i64 k, .pointer (some ⟨B, 0, none⟩)] w fun e w' => e = .returned (.float .f64 (xs.getD k 0)) ∧ w' = w := by
  obtain ⟨x, ex⟩ : ∃ x, xs.getD k 0 = x := ⟨_, rfl⟩
  rw [ex] at hc ⊢
  have i1 : (k : Int) < (xs.length : Int) := by omega
  clear ex
  go_enter Tryd.func15, Tryd.ntmps15
  go_wp2
  go_ret
  exact ⟨rfl, rfl⟩
set_option maxHeartbeats 1000000 in
theorem inorder_any (xs : List Nat) (ao : Option Addr) (cap B : Nat) (w : World) (hr : GRow w ao xs) (hF : FW xs) (hn : xs.length ≤ 1125899906842624) (hB : w.cell? ⟨B, 0, none⟩ = some (.slice ao xs.length cap)) :
    Calls Tryd.prog 14 #[.int .i64 xs.length, .func (.func 15) #[] #[.pointer (some ⟨B, 0, none⟩)]] w fun e w' => ∃ r, e = .returned (.float .f64 r) ∧ NR (naiveO xs) r ∧ Below w.heap.size w w' := by
  have h1 := fun x y w => run_op4 (P := Tryd.prog) (op := .add) (Or.inl rfl) 25 x y w
  have hcv := conv64
  go_enter Tryd.func14, Tryd.ntmps14
  go_wp2
  go_loopg [5, 6, 8] xs.length (fun g s _ i wr => ∃ k r : Nat, k ≤ xs.length ∧ g = xs.length - k ∧ s = .float .f64 r ∧ i = .int .i64 k ∧ Hid (NR (naiveO (xs.take k)) r) ∧ Hid (Below w.heap.size w wr))
  case atStart => exact ⟨0, 0, Nat.zero_le _, rfl, rfl, rfl, ⟨by omega, rfl⟩, Below.refl _ _⟩
  case round =>
    obtain ⟨k, r, hk, hg, rfl, rfl, hN, hBl⟩ := hrel
    have HG : Hid (gk = xs.length - k) := hg
    clear hg
    by_cases hlt : k < xs.length
    · have hBw : wr.cell? ⟨B, 0, none⟩ = some (.slice ao xs.length cap) := by
        rw [hBl.out.cell (World.block_lt_of_cell? w _ hB)]; exact hB
      rcases hr.below hBl.out with h | ⟨b, off, rfl, hc⟩
      · omega
      · have ca := naive1_any xs b off cap B k wr (hc k hlt) hlt hBw
        have hx := hF.at hlt
        have ht := take_at hlt
        obtain ⟨x, ex⟩ : ∃ x, xs.getD k 0 = x := ⟨_, rfl⟩
        rw [ex] at ca hx ht
        have HS : Hid (NR (naiveO (xs.take (k + 1))) (opR .add r x wr)) := (show NR _ _ by
          rw [ht, naive_snoc]
          exact opO_NR (Or.inl rfl) hN.out (toO_NR hx) wr)
        have HB : Hid (Below w.heap.size w (opW .add r x wr)) := opW_below .add r x hBl.out
        have i1 : (k : Int) < (xs.length : Int) := by omega
        clear hc ht ex hN
        go_wp2_with (go_at_call 15; refine ca.mono ?_; rintro e w' ⟨rfl, rfl⟩)
        go_roundg (xs.length - (k + 1))
        case measure => rw [HG.out]; omega
        case rel => exact ⟨k + 1, _, by omega, rfl, rfl, by go_num, HS, HB⟩
    · have e : xs.take k = xs := List.take_of_length_le (by omega)
      have HN : Hid (NR (naiveO xs) r) := (show NR _ _ by rw [← e]; exact hN.out)
      have i1 : ¬ (k : Int) < (xs.length : Int) := by omega
      clear hN e
      go_wp2
      go_ret
      exact ⟨_, rfl, HN.out, hBl.out⟩
set_option maxHeartbeats 400000 in
theorem naive_any (xs : List Nat) (ao : Option Addr) (cap : Nat) (w : World) (hr : GRow w ao xs) (hF : FW xs) (hn : xs.length ≤ 1125899906842624) :
    Calls Tryd.prog 6 #[.slice ao xs.length cap] w fun e w' => ∃ r, e = .returned (.float .f64 r) ∧ NR (naiveO xs) r ∧ Below w.heap.size w w' := by
  have ci := fun B w h1 h2 => inorder_any xs ao cap B w h1 hF hn h2
  go_enter Tryd.func6, Tryd.ntmps6
  go_wp2_with (go_at_call 14; refine (ci _ _ (hr.below ((Below.refl _ _).alloc (Nat.le_refl _) _)) (by go_simp)).mono ?_; rintro e w1 ⟨r, rfl, hN, b1⟩)
  go_ret
  exact ⟨_, rfl, hN, ((Below.refl _ _).alloc (Nat.le_refl _) _).trans (b1.mono (by go_simp))⟩
end Go.Proofs.YtdjljbcigobdpaaDoor
