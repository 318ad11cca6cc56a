/- Ratios: Int, Norm. -/
import Derived.Test.YtmcnnnmlacpppaaDoorRtc
namespace Go.Proofs.YtmcnnnmlacpppaaDoor
open Go.RowKit

/-- One limb in a new row. -/
theorem oneLS (W : World) (z : Nat) (t : TypeId) : LS (W.alloc (.cells #[.int .u64 ((z : Nat) : Int)] t)) (some ⟨W.heap.size, 0, none⟩) 1 [z] :=
  ⟨Or.inr ⟨W.heap.size, 0, rfl, fun j hj => by
    have : j = 0 := by simp at hj; omega
    subst this
    go_simp⟩, by simp, fun e => by cases e⟩
theorem one_vl (z : Nat) : vl [z] = z := by simp [vl]
theorem one_lm {z : Nat} (h : z < 18446744073709551616) : Lm [z] := fun x hx => by simp at hx; omega
/-- A ratio handed back with no error beside it. -/
def GaveI (w : World) (neg : Bool) (N D : Nat) (e : Ending) (w' : World) : Prop :=
  ∃ ao cap bo bcap, e = .returned (.agg #[.bool neg, .slice ao (nl N) cap, .slice bo (nl D) bcap]) ∧ LS w' ao cap (lo N) ∧ LS w' bo bcap (lo D) ∧ Below w.heap.size w w'
set_option maxHeartbeats 1000000 in
theorem rint_any (n : Int) (n1 : -9223372036854775808 ≤ n) (n2 : n < 9223372036854775808) (w : World) :
    Calls Tryd.prog 20 #[.int .i64 n] w (GaveI w (decide (n < 0)) n.natAbs 1) := by
  have RB := B3q.new w (.bool false) (.slice none 0 0) (.slice none 0 0) 25
  have hb0 : Below w.heap.size w (w.alloc (.cells #[.bool false, .slice none 0 0, .slice none 0 0] 25)) := (Below.refl _ _).alloc (Nat.le_refl _) _
  obtain ⟨z, ez⟩ : ∃ z, n.natAbs = z := ⟨_, rfl⟩
  rw [ez]
  have cp := fun (W : World) (z : Nat) (hz : z < 18446744073709551616) => lput_any [z] (some ⟨W.heap.size, 0, none⟩) 1 (W.alloc (.cells #[.int .u64 ((z : Nat) : Int)] 22)) (oneLS W z _) (one_lm hz) (by simp)
  simp only [one_vl, List.length_cons, List.length_nil] at cp
  go_enter Tryd.func20, Tryd.ntmps20
  go_upto_region 1 with fail
  generalize w.alloc (.cells #[.bool false, .slice none 0 0, .slice none 0 0] 25) = W0 at *
  have c1 := cp W0 z (by omega)
  have c2 := fun W => cp W 1 (by omega)
  by_cases h0 : n < 0
  · have u1 : IntKind.u64.wrap n = n + 18446744073709551616 := by rw [IntKind.wrap_u64]; omega
    have u2 : IntKind.u64.wrap (-(n + 18446744073709551616)) = (z : Int) := by rw [IntKind.wrap_u64]; omega
    have hd : decide (n < 0) = true := decide_eq_true h0
    rw [hd]
    clear hd
    go_wp2_with (first | (go_at_call 51; refine (c2 _).mono ?_; rintro e w2 ⟨bo1, bc1, rfl, hB1, hb2⟩; have RB2 := (RB1.alloc (.cells #[.int .u64 ((1 : Nat) : Int)] 22)).below hb2; obtain ⟨r0, r1, r2, p0, p1, p2, _, _⟩ := id RB2) | (go_at_call 51; refine c1.mono ?_; rintro e w1 ⟨ao1, ac1, rfl, hA1, hb1⟩; have RB1 := (RB.alloc (.cells #[.int .u64 ((z : Nat) : Int)] 22)).below hb1))
    have q1 := (hb0.alloc hb0.size (.cells #[.int .u64 ((z : Nat) : Int)] 22)).trans (hb1.mono (by have := hb0.size; simp; omega))
    have q2 := (q1.alloc q1.size (.cells #[.int .u64 ((1 : Nat) : Int)] 22)).trans (hb2.mono (by have := q1.size; simp; omega))
    exact bodyPost_ret (v := .agg #[.bool true, .slice ao1 (nl z) ac1, .slice bo1 (nl 1) bc1]) (by simp [results, Tryd.results20, go_sem, r0, r1, r2]) rfl ⟨ao1, ac1, bo1, bc1, by rw [decide_eq_true h0], ((hA1.made _).below hb2).threeB RB2 _ _ _, hB1.threeB RB2 _ _ _, below_three q2 (Nat.le_refl _) _ _ _⟩
  · have u1 : IntKind.u64.wrap n = (z : Int) := by rw [IntKind.wrap_u64]; omega
    have hd : decide (n < 0) = false := decide_eq_false h0
    rw [hd]
    clear hd
    go_wp2_with (first | (go_at_call 51; refine (c2 _).mono ?_; rintro e w2 ⟨bo1, bc1, rfl, hB1, hb2⟩; have RB2 := (RB1.alloc (.cells #[.int .u64 ((1 : Nat) : Int)] 22)).below hb2; obtain ⟨r0, r1, r2, p0, p1, p2, _, _⟩ := id RB2) | (go_at_call 51; refine c1.mono ?_; rintro e w1 ⟨ao1, ac1, rfl, hA1, hb1⟩; have RB1 := (RB.alloc (.cells #[.int .u64 ((z : Nat) : Int)] 22)).below hb1))
    have q1 := (hb0.alloc hb0.size (.cells #[.int .u64 ((z : Nat) : Int)] 22)).trans (hb1.mono (by have := hb0.size; simp; omega))
    have q2 := (q1.alloc q1.size (.cells #[.int .u64 ((1 : Nat) : Int)] 22)).trans (hb2.mono (by have := q1.size; simp; omega))
    exact bodyPost_ret (v := .agg #[.bool false, .slice ao1 (nl z) ac1, .slice bo1 (nl 1) bc1]) (by simp [results, Tryd.results20, go_sem, r0, r1, r2]) rfl ⟨ao1, ac1, bo1, bc1, by rw [decide_eq_false (show ¬ n < 0 by omega)], ((hA1.made _).below hb2).threeB RB2 _ _ _, hB1.threeB RB2 _ _ _, below_three q2 (Nat.le_refl _) _ _ _⟩
end Go.Proofs.YtmcnnnmlacpppaaDoor
