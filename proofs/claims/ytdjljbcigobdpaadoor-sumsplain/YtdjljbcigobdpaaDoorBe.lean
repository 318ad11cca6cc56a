/- What the document's Kept answers; both sides' Pairwise. -/
import Derived.Test.YtdjljbcigobdpaaDoorBd
namespace Go.Proofs.YtdjljbcigobdpaaDoor
open Go.RowKit

set_option maxHeartbeats 2000000 in
theorem rkept_any (xs : List Nat) (ao : Option Addr) (cap : Nat) (w : World) (hr : GRow w ao xs) (hF : FW xs) (hn : xs.length ≤ 1125899906842624) :
    Calls Tryd.prog 11 #[.slice ao xs.length cap] w fun e w' => ∃ r, e = .returned (.float .f64 r) ∧ NR (keptO xs) r ∧ Below w.heap.size w w' := by
  have h1 := fun x y w => run_op4 (P := Tryd.prog) (op := .add) (Or.inl rfl) 25 x y w
  have h2 := fun x y w => run_op4 (P := Tryd.prog) (op := .sub) (Or.inr (Or.inl rfl)) 25 x y w
  go_enter Tryd.func11, Tryd.ntmps11
  go_wp2
  go_loopg [3, 4, 5, 6, 7, 8, 9, 10, 11] xs.length (fun g s c i _ _ _ _ _ _ wr => ∃ k r q : Nat, k ≤ xs.length ∧ g = xs.length - k ∧ s = .float .f64 r ∧ c = .float .f64 q ∧ i = .int .i64 k ∧ Hid (NR (keptP (xs.take k)).1 r) ∧ Hid (NR (keptP (xs.take k)).2 q) ∧ Hid (Below w.heap.size w wr))
  case atStart => exact ⟨0, 0, 0, Nat.zero_le _, rfl, rfl, rfl, rfl, ⟨by omega, rfl⟩, ⟨by omega, rfl⟩, Below.refl _ _⟩
  case round =>
    obtain ⟨k, r, q, hk, hg, rfl, rfl, rfl, hN, hQ, hBl⟩ := hrel
    have HG : Hid (gk = xs.length - k) := hg
    clear hg
    by_cases hlt : k < xs.length
    · rcases hr.below hBl.out with h | ⟨b, off, rfl, hc⟩
      · omega
      · have g1 := hc k hlt
        have hx := hF.at hlt
        have ht := take_at hlt
        obtain ⟨x, ex⟩ : ∃ x, xs.getD k 0 = x := ⟨_, rfl⟩
        rw [ex] at g1 hx ht
        have hX := toO_NR hx
        have hT : NR (opO .add (keptP (xs.take k)).1 (toO x)) (opR .add r x wr) := opO_NR (Or.inl rfl) hN.out hX wr
        have hge := geO_NR hN.out hX
        have hB1 : Below w.heap.size w (opW .add r x wr) := opW_below .add r x hBl.out
        have HT : Hid (NR (keptP (xs.take (k + 1))).1 (opR .add r x wr)) := (show NR _ _ by rw [ht, kept_snoc]; exact hT)
        have hrl := hN.out.1
        have i1 : (k : Int) < (xs.length : Int) := by omega
        cases gq : geO (keptP (xs.take k)).1 (toO x) <;> rw [gq] at hge
        · have HC : ∀ w1 w2 w3, Hid (NR (keptP (xs.take (k + 1))).2 (opR .add q (opR .add (opR .sub x (opR .add r x wr) w1) r w2) w3)) := fun w1 w2 w3 => (show NR _ _ by
            rw [ht, kept_snoc, kept_lt gq]
            exact opO_NR (Or.inl rfl) hQ.out (opO_NR (Or.inl rfl) (opO_NR (Or.inr (Or.inl rfl)) hX hT w1) hN.out w2) w3)
          have HB : ∀ w1, Below w.heap.size w w1 → ∀ x y, Below w.heap.size w (opW .add x y w1) := fun w1 h x y => opW_below .add x y h
          have HS : Hid (∀ w1, Below w.heap.size w w1 → ∀ x y, Below w.heap.size w (opW .sub x y w1)) := fun w1 h x y => opW_below .sub x y h
          have HA : Hid (∀ w1, Below w.heap.size w w1 → ∀ x y, Below w.heap.size w (opW .add x y w1)) := HB
          have HB1 : Hid (Below w.heap.size w (opW .add r x wr)) := hB1
          clear hc ht ex hQ gq hT hN hX HB hB1
          go_wp2_with (first
            | (go_at_call_of 16 (Value.float FloatKind.f64 r); refine (abs_any r hrl _).mono ?_; rintro e w' ⟨rfl, rfl⟩)
            | (go_at_call_of 16 (Value.float FloatKind.f64 x); refine (abs_any x hx _).mono ?_; rintro e w' ⟨rfl, rfl⟩))
          go_roundg (xs.length - (k + 1))
          case measure => rw [HG.out]; omega
          case rel => exact ⟨k + 1, _, _, by omega, rfl, rfl, rfl, by go_num, HT, HC _ _ _, HA.out _ (HA.out _ (HS.out _ HB1.out _ _) _ _) _ _⟩
        · have HC : ∀ w1 w2 w3, Hid (NR (keptP (xs.take (k + 1))).2 (opR .add q (opR .add (opR .sub r (opR .add r x wr) w1) x w2) w3)) := fun w1 w2 w3 => (show NR _ _ by
            rw [ht, kept_snoc, kept_ge gq]
            exact opO_NR (Or.inl rfl) hQ.out (opO_NR (Or.inl rfl) (opO_NR (Or.inr (Or.inl rfl)) hN.out hT w1) hX w2) w3)
          have HS : Hid (∀ w1, Below w.heap.size w w1 → ∀ x y, Below w.heap.size w (opW .sub x y w1)) := fun w1 h x y => opW_below .sub x y h
          have HA : Hid (∀ w1, Below w.heap.size w w1 → ∀ x y, Below w.heap.size w (opW .add x y w1)) := fun w1 h x y => opW_below .add x y h
          have HB1 : Hid (Below w.heap.size w (opW .add r x wr)) := hB1
          clear hc ht ex hQ gq hT hN hX hB1
          go_wp2_with (first
            | (go_at_call_of 16 (Value.float FloatKind.f64 r); refine (abs_any r hrl _).mono ?_; rintro e w' ⟨rfl, rfl⟩)
            | (go_at_call_of 16 (Value.float FloatKind.f64 x); refine (abs_any x hx _).mono ?_; rintro e w' ⟨rfl, rfl⟩))
          go_roundg (xs.length - (k + 1))
          case measure => rw [HG.out]; omega
          case rel => exact ⟨k + 1, _, _, by omega, rfl, rfl, rfl, by go_num, HT, HC _ _ _, HA.out _ (HA.out _ (HS.out _ HB1.out _ _) _ _) _ _⟩
    · have e : xs.take k = xs := List.take_of_length_le (by omega)
      have HN : Hid (NR (keptO xs) (opR .add r q wr)) := (show NR _ _ by
        unfold keptO
        have h := opO_NR (op := .add) (Or.inl rfl) hN.out hQ.out wr
        rw [e] at h
        exact h)
      have HB : Hid (Below w.heap.size w (opW .add r q wr)) := opW_below .add r q hBl.out
      have i1 : ¬ (k : Int) < (xs.length : Int) := by omega
      clear hN hQ e
      go_wp2
      go_ret
      exact ⟨_, rfl, HN.out, HB.out⟩
end Go.Proofs.YtdjljbcigobdpaaDoor
