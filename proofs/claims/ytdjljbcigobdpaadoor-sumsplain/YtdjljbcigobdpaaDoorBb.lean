/- What Naive answers, the program's and the document's. -/
import Derived.Test.YtdjljbcigobdpaaDoorBa
import Derived.Test.YtdjljbcigobdpaaDoorZb
import Derived.Deep.LoopGhost
namespace Go.Proofs.YtdjljbcigobdpaaDoor
open Go.RowKit

/-- Floats at an address. -/
def GRow (w : World) (ao : Option Addr) (xs : List Nat) : Prop := xs.length = 0 ∨ ∃ b off, ao = some ⟨b, off, none⟩ ∧ ∀ j, j < xs.length → w.cell? ⟨b, off + j, none⟩ = some (.float .f64 (xs.getD j 0))
theorem GRow.below {w w' : World} {ao : Option Addr} {xs : List Nat} (h : GRow w ao xs) (hb : Below w.heap.size w w') : GRow w' ao xs := by
  rcases h with h | ⟨b, off, rfl, hc⟩
  · exact Or.inl h
  · exact Or.inr ⟨b, off, rfl, fun j hj => by rw [hb.cell (World.block_lt_of_cell? w _ (hc j hj))]; exact hc j hj⟩
theorem getD_at {xs : List Nat} {k : Nat} (hk : k < xs.length) : xs.getD k 0 = xs[k] := by simp [List.getD, hk]
def FW (xs : List Nat) : Prop := ∀ x, x ∈ xs → x < 18446744073709551616
theorem FW.at {xs : List Nat} (h : FW xs) {k : Nat} (hk : k < xs.length) : xs.getD k 0 < 18446744073709551616 := by
  rw [getD_at hk]
  exact h _ (List.getElem_mem hk)
theorem take_at {xs : List Nat} {k : Nat} (hk : k < xs.length) : xs.take (k + 1) = xs.take k ++ [xs.getD k 0] := by
  rw [List.take_succ_eq_append_getElem hk, getD_at hk]
set_option maxHeartbeats 1000000 in
theorem rnaive_any (xs : List Nat) (ao : Option Addr) (cap : Nat) (w : World) (hr : GRow w ao xs) (hF : FW xs) (hn : xs.length ≤ 1125899906842624) :
    Calls Tryd.prog 7 #[.slice ao xs.length cap] w fun e w' => ∃ r, e = .returned (.float .f64 r) ∧ NR (naiveO xs) r ∧ Below w.heap.size w w' := by
  have h1 := fun x y w => run_op4 (P := Tryd.prog) (op := .add) (Or.inl rfl) 25 x y w
  go_enter Tryd.func7, Tryd.ntmps7
  go_wp2
  go_loopg [3, 4] xs.length (fun g s i wr => ∃ k r : Nat, k ≤ xs.length ∧ g = xs.length - k ∧ s = .float .f64 r ∧ i = .int .i64 k ∧ Hid (NR (naiveO (xs.take k)) r) ∧ Hid (Below w.heap.size w wr))
  case atStart => exact ⟨0, 0, Nat.zero_le _, rfl, rfl, rfl, ⟨by omega, rfl⟩, Below.refl _ _⟩
  case round =>
    obtain ⟨k, r, hk, hg, rfl, rfl, hN, hB⟩ := hrel
    have HG : Hid (gk = xs.length - k) := hg
    clear hg
    by_cases hlt : k < xs.length
    · rcases hr.below hB.out with h | ⟨b, off, rfl, hc⟩
      · omega
      · have g1 := hc k hlt
        have hx := hF.at hlt
        have ht := take_at hlt
        obtain ⟨x, ex⟩ : ∃ x, xs.getD k 0 = x := ⟨_, rfl⟩
        rw [ex] at g1 hx ht
        have HS : Hid (NR (naiveO (xs.take (k + 1))) (opR .add r x wr)) := (show NR _ _ by
          rw [ht, naive_snoc]
          exact opO_NR (Or.inl rfl) hN.out (toO_NR hx) wr)
        have HB : Hid (Below w.heap.size w (opW .add r x wr)) := opW_below .add r x hB.out
        have i1 : (k : Int) < (xs.length : Int) := by omega
        clear hc ht ex hN
        go_wp2
        go_roundg (xs.length - (k + 1))
        case measure => rw [HG.out]; omega
        case rel => exact ⟨k + 1, _, by omega, rfl, rfl, by go_num, HS, HB⟩
    · have e : xs.take k = xs := List.take_of_length_le (by omega)
      have HN : Hid (NR (naiveO xs) r) := (show NR _ _ by rw [← e]; exact hN.out)
      have i1 : ¬ (k : Int) < (xs.length : Int) := by omega
      clear hN e
      go_wp2
      go_ret
      exact ⟨_, rfl, HN.out, hB.out⟩
end Go.Proofs.YtdjljbcigobdpaaDoor
