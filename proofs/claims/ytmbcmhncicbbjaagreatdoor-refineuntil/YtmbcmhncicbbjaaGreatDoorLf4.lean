/- The document's Left, whatever it is given. -/
import Derived.Test.YtmbcmhncicbbjaaGreatDoorLf3
namespace Go.Proofs.YtmbcmhncicbbjaaGreatDoor
open Go.RowKit

set_option maxRecDepth 100000 in
set_option maxHeartbeats 4000000 in
theorem dleft_any (r c : Int) (ms xs bs : List Nat) (ao xo bo : Option Addr) (cap xc bc : Nat) (w : World) (hM : GRow w ao ms) (hX : GRow w xo xs) (hB : GRow w bo bs) (fM : FW ms) (fX : FW xs) (fB : FW bs) (lM : ms.length ≤ 1125899906842624) (lX : xs.length ≤ 1125899906842624) (lB : bs.length ≤ 1125899906842624) :
    Calls Tryz.prog 11 #[mxV r c ao ms.length cap, .slice xo xs.length xc, .slice bo bs.length bc] w fun e w' => GaveE w (lfA r c ms xs bs) e w' := by
  have cf := fun W => dfit_any14 r c ao xo bo ms.length cap xs.length xc bs.length bc W
  have cm := fun W h => rfinite14 ms ao cap W h fM lM
  have cx := fun W h => rfinite14 xs xo xc W h fX lX
  have cb := fun W h => rfinite14 bs bo bc W h fB lB
  have M0 := B3.new w (.int .i64 r) (.int .i64 c) (.slice ao ms.length cap) 24
  have bb0 : Below w.heap.size w (w.alloc (.cells #[.int .i64 r, .int .i64 c, .slice ao ms.length cap] 24)) := below_one w _
  cases q : fit14 r c ms.length xs.length bs.length
  · have eA : lfA r c ms xs bs = ([], 4) := by unfold lfA; rw [q]; rfl
    rw [eA]
    rw [q] at cf
    clear eA q fM fX fB cm cx cb lM lX lB
    generalize ms.length = n1 at *
    generalize xs.length = n2 at *
    generalize bs.length = n3 at *
    go_enter Tryz.func11, Tryz.ntmps11
    go_wp2_with (go_at_call 27; refine (cf _).mono ?_; rintro e w1 ⟨rfl, b1⟩)
    exact bodyPost_ret (v := .tuple #[.slice none 0 0, .int .i64 4]) (by simp [results, Tryz.results11, go_sem]) rfl (GaveE.none 4 (bb0.trans (b1.mono bb0.size)))
  cases q2 : (ms.all finB && (xs.all finB && bs.all finB))
  · have eA : lfA r c ms xs bs = ([], 5) := by unfold lfA; rw [q, q2]; rfl
    rw [eA]
    rw [q] at cf
    obtain ⟨n1, e1⟩ : ∃ n1, ms.length = n1 := ⟨_, rfl⟩
    obtain ⟨n2, e2⟩ : ∃ n2, xs.length = n2 := ⟨_, rfl⟩
    obtain ⟨n3, e3⟩ : ∃ n3, bs.length = n3 := ⟨_, rfl⟩
    rw [e1, e2, e3] at cf
    rw [e1] at cm M0 bb0
    rw [e2] at cx
    rw [e3] at cb
    rw [e1, e2, e3]
    clear eA q fM fX fB lM lX lB e1 e2 e3
    cases a1 : ms.all finB
    · rw [a1] at cm
      clear a1 q2 cx cb hX hB
      go_enter Tryz.func11, Tryz.ntmps11
      go_wp2_with (first
        | (go_at_call 27; refine (cf _).mono ?_; rintro e w1 ⟨rfl, b1⟩; have M1 := M0.below b1; obtain ⟨m0, m1, m2, _⟩ := id M1; have bb := bb0.trans (b1.mono bb0.size))
        | (go_at_call_of 28 (Value.slice ao n1 cap); refine (cm _ (hM.below bb)).mono ?_; rintro e w2 ⟨rfl, b2⟩; have bb2 := bb.trans (b2.mono bb.size)))
      exact bodyPost_ret (v := .tuple #[.slice none 0 0, .int .i64 5]) (by simp [results, Tryz.results11, go_sem]) rfl (GaveE.none 5 bb2)
    · rw [a1] at cm q2
      cases a2 : xs.all finB
      · rw [a2] at cx
        clear a1 a2 q2 cb hB
        go_enter Tryz.func11, Tryz.ntmps11
        go_wp2_with (first
          | (go_at_call 27; refine (cf _).mono ?_; rintro e w1 ⟨rfl, b1⟩; have M1 := M0.below b1; obtain ⟨m0, m1, m2, _⟩ := id M1; have bb := bb0.trans (b1.mono bb0.size))
          | (go_at_call_of 28 (Value.slice ao n1 cap); refine (cm _ (hM.below bb)).mono ?_; rintro e w2 ⟨rfl, b2⟩; have bb2 := bb.trans (b2.mono bb.size))
          | (go_at_call_of 28 (Value.slice xo n2 xc); refine (cx _ (hX.below bb2)).mono ?_; rintro e w3 ⟨rfl, b3⟩; have bb3 := bb2.trans (b3.mono bb2.size)))
        exact bodyPost_ret (v := .tuple #[.slice none 0 0, .int .i64 5]) (by simp [results, Tryz.results11, go_sem]) rfl (GaveE.none 5 bb3)
      · have a3 : bs.all finB = false := by rw [a2] at q2; simpa using q2
        rw [a2] at cx
        rw [a3] at cb
        clear a1 a2 a3 q2
        go_enter Tryz.func11, Tryz.ntmps11
        go_wp2_with (first
          | (go_at_call 27; refine (cf _).mono ?_; rintro e w1 ⟨rfl, b1⟩; have M1 := M0.below b1; obtain ⟨m0, m1, m2, _⟩ := id M1; have bb := bb0.trans (b1.mono bb0.size))
          | (go_at_call_of 28 (Value.slice ao n1 cap); refine (cm _ (hM.below bb)).mono ?_; rintro e w2 ⟨rfl, b2⟩; have bb2 := bb.trans (b2.mono bb.size))
          | (go_at_call_of 28 (Value.slice xo n2 xc); refine (cx _ (hX.below bb2)).mono ?_; rintro e w3 ⟨rfl, b3⟩; have bb3 := bb2.trans (b3.mono bb2.size))
          | (go_at_call_of 28 (Value.slice bo n3 bc); refine (cb _ (hB.below bb3)).mono ?_; rintro e w4 ⟨rfl, b4⟩; have bb4 := bb3.trans (b4.mono bb3.size)))
        exact bodyPost_ret (v := .tuple #[.slice none 0 0, .int .i64 5]) (by simp [results, Tryz.results11, go_sem]) rfl (GaveE.none 5 bb4)
  · simp only [Bool.and_eq_true] at q2
    obtain ⟨aM, aX, aB⟩ := q2
    have eA : lfA r c ms xs bs = if (lfL r.toNat c.toNat ms xs bs).all finB then (lfL r.toNat c.toNat ms xs bs, 0) else ([], 6) := by unfold lfA; rw [q, aM, aX, aB]; rfl
    rw [eA]
    rw [q] at cf
    have q' := q
    unfold fit14 at q'
    simp only [Bool.and_eq_true, decide_eq_true_eq] at q'
    obtain ⟨⟨p1, p2⟩, p3⟩ := q'
    obtain ⟨R, C, rfl, rfl, hR, hC, hl⟩ := rightM_nat p1
    simp only [Int.toNat_natCast]
    have l2 : xs.length = C := by omega
    have l3 : bs.length = R := by omega
    have h := fun (cf' : ∀ W, Calls Tryz.prog 27 #[mxV R C ao ms.length cap, .slice xo C xc, .slice bo R bc] W fun e w' => e = .returned (.bool true) ∧ Below W.heap.size W w') => dleft_ok R C ms.length ms xs bs ao xo bo cap xc bc w hM hX hB fM fX fB hR hC hl rfl l2 l3 aM aX aB cf'
    rw [l2, l3] at cf
    rw [l2, l3]
    exact h cf
end Go.Proofs.YtmbcmhncicbbjaaGreatDoor
