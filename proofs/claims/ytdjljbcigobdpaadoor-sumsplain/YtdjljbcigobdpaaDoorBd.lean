/- What lost and Kept answer, the program's and the document's. -/
import Derived.Test.YtdjljbcigobdpaaDoorBc
namespace Go.Proofs.YtdjljbcigobdpaaDoor
open Go.RowKit

set_option maxHeartbeats 400000 in
theorem lost_any {og ol ot : Option Nat} {g l t : Nat} (hg : NR og g) (hl : NR ol l) (ht : NR ot t) (w : World) :
    Calls Tryd.prog 17 #[.float .f64 g, .float .f64 l, .float .f64 t] w fun e w' => ∃ r, e = .returned (.float .f64 r) ∧ NR (opO .add (opO .sub og ot) ol) r ∧ Below w.heap.size w w' := by
  have h1 := fun x y w => run_op4 (P := Tryd.prog) (op := .add) (Or.inl rfl) 25 x y w
  have h2 := fun x y w => run_op4 (P := Tryd.prog) (op := .sub) (Or.inr (Or.inl rfl)) 25 x y w
  have hcv := conv64
  have HN : Hid (NR (opO .add (opO .sub og ot) ol) (opR .add (opR .sub g t w) l (opW .sub g t w))) := opO_NR (Or.inl rfl) (opO_NR (Or.inr (Or.inl rfl)) hg ht w) hl _
  have HB : Hid (Below w.heap.size w (opW .add (opR .sub g t w) l (opW .sub g t w))) := opW_below .add _ _ (opW_below .sub g t (Below.refl _ _))
  clear hg hl ht
  go_enter Tryd.func17, Tryd.ntmps17
  go_wp2
  go_ret
  exact ⟨_, rfl, HN.out, HB.out⟩
theorem kept_one (q : Option Nat × Option Nat) (x : Nat) : (keptS q x).1 = opO .add q.1 (toO x) := rfl
theorem kept_ge {q : Option Nat × Option Nat} {x : Nat} (h : geO q.1 (toO x) = true) : (keptS q x).2 = opO .add q.2 (opO .add (opO .sub q.1 (opO .add q.1 (toO x))) (toO x)) := by
  show (if geO q.1 (toO x) then _ else _) = _
  rw [if_pos h]
theorem kept_lt {q : Option Nat × Option Nat} {x : Nat} (h : geO q.1 (toO x) = false) : (keptS q x).2 = opO .add q.2 (opO .add (opO .sub (toO x) (opO .add q.1 (toO x))) q.1) := by
  show (if geO q.1 (toO x) then _ else _) = _
  rw [if_neg (by rw [h]; decide)]
set_option maxHeartbeats 2000000 in
theorem kept_any (xs : List Nat) (ao : Option Addr) (cap : Nat) (w : World) (hr : GRow w ao xs) (hF : FW xs) (hn : xs.length ≤ 1125899906842624) :
    Calls Tryd.prog 10 #[.slice ao xs.length cap] w fun e w' => ∃ r, e = .returned (.float .f64 r) ∧ NR (keptO xs) r ∧ Below w.heap.size w w' := by
  have h1 := fun x y w => run_op4 (P := Tryd.prog) (op := .add) (Or.inl rfl) 25 x y w
  have hcv := conv64
  go_enter Tryd.func10, Tryd.ntmps10
  go_wp2
  go_loopg [3, 4, 5, 6, 7, 10] xs.length (fun g s c _ _ _ i wr => ∃ k r q : Nat, k ≤ xs.length ∧ g = xs.length - k ∧ s = .float .f64 r ∧ c = .float .f64 q ∧ i = .int .i64 k ∧ Hid (NR (keptP (xs.take k)).1 r) ∧ Hid (NR (keptP (xs.take k)).2 q) ∧ Hid (Below w.heap.size w wr))
  case atStart => exact ⟨0, 0, 0, Nat.zero_le _, rfl, rfl, rfl, rfl, ⟨by omega, rfl⟩, ⟨by omega, rfl⟩, Below.refl _ _⟩
  case round =>
    obtain ⟨k, r, q, hk, hg, rfl, rfl, rfl, hN, hQ, hBl⟩ := hrel
    have HG : Hid (gk = xs.length - k) := hg
    clear hg
    by_cases hlt : k < xs.length
    · rcases hr.below hBl.out with h | ⟨b, off, rfl, hc⟩
      · omega
      · have g1 := hc k hlt
        have hx := hF.at hlt
        have ht := take_at hlt
        obtain ⟨x, ex⟩ : ∃ x, xs.getD k 0 = x := ⟨_, rfl⟩
        rw [ex] at g1 hx ht
        have hX := toO_NR hx
        have ht1 : (keptP (xs.take (k + 1))).1 = opO .add (keptP (xs.take k)).1 (toO x) := by rw [ht, kept_snoc]; rfl
        have hT : NR (opO .add (keptP (xs.take k)).1 (toO x)) (opR .add r x wr) := opO_NR (Or.inl rfl) hN.out hX wr
        have hge := geO_NR hN.out hX
        have hB1 : Hid (Below w.heap.size w (opW .add r x wr)) := opW_below .add r x hBl.out
        have HT : Hid (NR (keptP (xs.take (k + 1))).1 (opR .add r x wr)) := (show NR _ _ by rw [ht1]; exact hT)
        have hrl := hN.out.1
        have i1 : (k : Int) < (xs.length : Int) := by omega
        cases gq : geO (keptP (xs.take k)).1 (toO x) <;> rw [gq] at hge
        · have HC : ∀ d w', NR (opO .add (opO .sub (toO x) (opO .add (keptP (xs.take k)).1 (toO x))) (keptP (xs.take k)).1) d → NR (keptP (xs.take (k + 1))).2 (opR .add q d w') := by
            intro d w' h
            rw [ht, kept_snoc, kept_lt gq]
            exact opO_NR (Or.inl rfl) hQ.out h w'
          have cl := fun w => lost_any hX hN.out hT w
          have hHC : Hid (∀ d w', NR (opO .add (opO .sub (toO x) (opO .add (keptP (xs.take k)).1 (toO x))) (keptP (xs.take k)).1) d → NR (keptP (xs.take (k + 1))).2 (opR .add q d w')) := HC
          clear hc ht ht1 ex HC hQ gq hT hN hX
          go_wp2_with (first
            | (go_at_call_of 16 (Value.float FloatKind.f64 r); refine (abs_any r hrl _).mono ?_; rintro e w' ⟨rfl, rfl⟩)
            | (go_at_call_of 16 (Value.float FloatKind.f64 x); refine (abs_any x hx _).mono ?_; rintro e w' ⟨rfl, rfl⟩)
            | (go_at_call 17; refine (cl _).mono ?_; rintro e w2 ⟨d, rfl, hd, b2⟩))
          have HB2 := hB1.out.trans (b2.mono hB1.out.size)
          go_roundg (xs.length - (k + 1))
          case measure => rw [HG.out]; omega
          case rel => exact ⟨k + 1, _, _, by omega, rfl, rfl, rfl, by go_num, HT, hHC.out d _ hd, opW_below .add _ _ HB2⟩
        · have HC : ∀ d w', NR (opO .add (opO .sub (keptP (xs.take k)).1 (opO .add (keptP (xs.take k)).1 (toO x))) (toO x)) d → NR (keptP (xs.take (k + 1))).2 (opR .add q d w') := by
            intro d w' h
            rw [ht, kept_snoc, kept_ge gq]
            exact opO_NR (Or.inl rfl) hQ.out h w'
          have cl := fun w => lost_any hN.out hX hT w
          have hHC : Hid (∀ d w', NR (opO .add (opO .sub (keptP (xs.take k)).1 (opO .add (keptP (xs.take k)).1 (toO x))) (toO x)) d → NR (keptP (xs.take (k + 1))).2 (opR .add q d w')) := HC
          clear hc ht ht1 ex HC hQ gq hT hN hX
          go_wp2_with (first
            | (go_at_call_of 16 (Value.float FloatKind.f64 r); refine (abs_any r hrl _).mono ?_; rintro e w' ⟨rfl, rfl⟩)
            | (go_at_call_of 16 (Value.float FloatKind.f64 x); refine (abs_any x hx _).mono ?_; rintro e w' ⟨rfl, rfl⟩)
            | (go_at_call 17; refine (cl _).mono ?_; rintro e w2 ⟨d, rfl, hd, b2⟩))
          have HB2 := hB1.out.trans (b2.mono hB1.out.size)
          go_roundg (xs.length - (k + 1))
          case measure => rw [HG.out]; omega
          case rel => exact ⟨k + 1, _, _, by omega, rfl, rfl, rfl, by go_num, HT, hHC.out d _ hd, opW_below .add _ _ HB2⟩
    · have e : xs.take k = xs := List.take_of_length_le (by omega)
      have HN : Hid (NR (keptO xs) (opR .add r q wr)) := (show NR _ _ by
        unfold keptO
        have h := opO_NR (op := .add) (Or.inl rfl) hN.out hQ.out wr
        rw [e] at h
        exact h)
      have HB : Hid (Below w.heap.size w (opW .add r q wr)) := opW_below .add r q hBl.out
      have i1 : ¬ (k : Int) < (xs.length : Int) := by omega
      clear hN hQ e
      go_wp2
      go_ret
      exact ⟨_, rfl, HN.out, HB.out⟩
end Go.Proofs.YtdjljbcigobdpaaDoor
