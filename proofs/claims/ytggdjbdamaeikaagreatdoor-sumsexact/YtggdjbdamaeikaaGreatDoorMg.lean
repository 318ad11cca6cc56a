/- What the reference's numbers answer: Zero, Sign, Minus, Times, top. -/
import Derived.Test.YtggdjbdamaeikaaGreatDoorMc
namespace Go.Proofs.YtggdjbdamaeikaaGreatDoor
open Go.RowKit

theorem bl_none {v : Nat} : bl v = 0 ↔ v = 0 := by
  constructor
  · intro h
    by_cases h0 : v = 0
    · exact h0
    · have := bl_pos h0; omega
  · intro h; rw [h, bl_zero]
set_option maxHeartbeats 400000 in
theorem zero_any (d : Dy) (ao : Option Addr) (cap : Nat) (w : World) (hr : NS w ao cap d.mag) (hL : Lm d.mag) (hn : d.mag.length ≤ 17592186044416) :
    Calls Tryz.prog 55 #[.agg #[.bool d.neg, .slice ao d.mag.length cap, .int .i64 d.exp]] w fun e w' => e = .returned (.bool (vl d.mag == 0)) ∧ Below w.heap.size w w' := by
  have hB := fun w' (h : NS w' ao cap d.mag) => natBits_any d.mag ao cap w' h hL hn
  have HE : Hid ((((bl (vl d.mag) : Nat) : Int) == 0) = (vl d.mag == 0)) := (show _ = _ by rw [Bool.eq_iff_iff]; simp; exact bl_none)
  obtain ⟨neg, xs, ex⟩ := d
  simp only at *
  go_enter Tryz.func55, Tryz.ntmps55
  go_wp2_with (go_at_call 80; refine (hB _ (hr.below ((Below.refl _ _).alloc (Nat.le_refl _) _))).mono ?_; rintro e w1 ⟨rfl, hb⟩)
  go_ret
  exact ⟨retB HE.out, ((Below.refl _ _).alloc (Nat.le_refl _) _).trans (hb.mono (by simp))⟩
set_option maxHeartbeats 1000000 in
theorem nsign_any (d : Dy) (ao : Option Addr) (cap : Nat) (w : World) (hr : NS w ao cap d.mag) (hL : Lm d.mag) (hn : d.mag.length ≤ 17592186044416) :
    Calls Tryz.prog 45 #[.agg #[.bool d.neg, .slice ao d.mag.length cap, .int .i64 d.exp]] w fun e w' => e = .returned (.int .i64 (sgI (sv d))) ∧ Below w.heap.size w w' := by
  have hB := fun w' (h : NS w' ao cap d.mag) => zero_any d ao cap w' h hL hn
  have HE : Hid (sgI (sv d) = if vl d.mag == 0 then 0 else if d.neg then -1 else 1) := (show _ = _ by
    unfold sgI sv
    cases d.neg <;> by_cases h : vl d.mag = 0 <;> simp [h] <;> omega)
  cases hz : (vl d.mag == 0) <;> rw [hz] at hB HE
  · cases hneg : d.neg <;> rw [hneg] at hB HE
    all_goals
      obtain ⟨neg, xs, ex⟩ := d
      simp only at *
      clear hz hneg
      go_enter Tryz.func45, Tryz.ntmps45
      go_wp2_with (go_at_call 55; refine (hB _ (hr.below ((Below.refl _ _).alloc (Nat.le_refl _) _))).mono ?_; rintro e w1 ⟨rfl, hb⟩; obtain ⟨⟨c0, c1, c2⟩, ho1⟩ := one_box hb)
      go_ret
      exact ⟨retI HE.out.symm, ho1⟩
  · obtain ⟨neg, xs, ex⟩ := d
    simp only at *
    clear hz
    go_enter Tryz.func45, Tryz.ntmps45
    go_wp2_with (go_at_call 55; refine (hB _ (hr.below ((Below.refl _ _).alloc (Nat.le_refl _) _))).mono ?_; rintro e w1 ⟨rfl, hb⟩; obtain ⟨⟨c0, c1, c2⟩, ho1⟩ := one_box hb)
    go_ret
    exact ⟨retI HE.out.symm, ho1⟩
set_option maxHeartbeats 1000000 in
theorem minus_any (d : Dy) (ao : Option Addr) (cap : Nat) (w : World) :
    Calls Tryz.prog 112 #[.agg #[.bool d.neg, .slice ao d.mag.length cap, .int .i64 d.exp]] w fun e w' => e = .returned (.agg #[.bool (!d.neg), .slice ao d.mag.length cap, .int .i64 d.exp]) ∧ Below w.heap.size w w' := by
  obtain ⟨neg, xs, ex⟩ := d
  simp only at *
  have hend : ∀ o1 o2, Below w.heap.size w ((w.alloc o1).alloc o2) := fun o1 o2 => (((Below.refl _ _).alloc (Nat.le_refl _) o1).alloc (by simp) o2)
  go_enter Tryz.func112, Tryz.ntmps112
  go_wp2
  exact bodyPost_ret (v := .agg #[.bool (!neg), .slice ao xs.length cap, .int .i64 ex]) (by simp [results, Tryz.results112, go_sem]) rfl ⟨rfl, hend _ _⟩
end Go.Proofs.YtggdjbdamaeikaaGreatDoor
