/- What Right, turned, top, sign, CopyLimbs, CopyDyad, SameLimbs, SameDyad answer. -/
import Derived.Test.YtokfkooffbihcaaDoorDi
import Derived.Deep.QuietTactic
import Derived.BigQuiet
namespace Go.Proofs.YtokfkooffbihcaaDoor
open Go.RowKit

theorem u64_and1 {x : Nat} (h : x < 18446744073709551616) : bits .and .u64 (x : Int) 1 = ((x % 2 : Nat) : Int) := by
  have g := u64_and_nat x 1 h (by omega)
  have e2 : ((1 : Nat) : Int) = 1 := rfl
  rw [e2] at g
  rw [g]
  have := Nat.and_two_pow_sub_one_eq_mod x 1
  rw [show (2 : Nat) ^ 1 - 1 = 1 from rfl, show (2 : Nat) ^ 1 = 2 from rfl] at this
  rw [this]

theorem cell_alloc {w : World} {a : Addr} {v : Value} (h : w.cell? a = some v) (o : Obj) : (w.alloc o).cell? a = some v := by
  rw [((Below.refl _ _).alloc (Nat.le_refl _) o).cell (World.block_lt_of_cell? w _ h)]; exact h

set_option maxHeartbeats 1000000 in
theorem right_any (d : Dy) (ao : Option Addr) (cap : Nat) (w : World) (hr : LRow w ao d.mag) (hL : Lm d.mag) :
    Calls Tryd.prog 22 #[.agg #[.bool d.neg, .slice ao d.mag.length cap, .int .i64 d.exp]] w fun e w' => e = .returned (.bool (rightB d)) ∧ Below w.heap.size w w' := by
  obtain ⟨neg, xs, ex⟩ := d
  have hend : ∀ o1, Below w.heap.size w (w.alloc o1) := fun o1 => (Below.refl _ _).alloc (Nat.le_refl _) o1
  simp only at *
  by_cases h0 : xs.length = 0
  · have HE : Hid (rightB ⟨neg, xs, ex⟩ = (!neg && decide (ex = 0))) := (show rightB ⟨neg, xs, ex⟩ = _ by unfold rightB; rw [if_pos (by exact h0)])
    rw [h0]
    cases neg
    all_goals
      go_enter Tryd.func22, Tryd.ntmps22
      go_wp2
      go_ret
      exact ⟨retB (by rw [HE.out]; first | rfl | (rw [Bool.eq_iff_iff]; simp)), hend _⟩
  · rcases hr with h | ⟨b, off, rfl, hc⟩
    · omega
    · have g0 := fun o => cell_alloc (hc 0 (by omega)) o
      have g1 := fun o => cell_alloc (hc (xs.length - 1) (by omega)) o
      have k0 := hL.getD 0
      have HR : Hid (rightB ⟨neg, xs, ex⟩ = decide (xs.length ≤ 256 ∧ xs.getD 0 0 % 2 = 1 ∧ xs.getD (xs.length - 1) 0 ≠ 0 ∧ -65536 ≤ ex ∧ ex ≤ 65536)) := (show rightB ⟨neg, xs, ex⟩ = _ by unfold rightB; rw [if_neg (by exact h0)])
      generalize xs.getD 0 0 = x at *
      generalize xs.getD (xs.length - 1) 0 = y at *
      have ka : bits .and .u64 (x : Int) 1 = (x : Int) % 2 := (u64_and1 k0).trans (by omega)
      have hn0 : ((xs.length : Int) == 0) = false := beq_eq_false_iff_ne.2 (by omega)
      simp only [Nat.add_zero] at g0
      clear hc hL
      by_cases h1 : (xs.length : Int) ≤ 256
      · by_cases h2 : x % 2 = 1
        · have h2' : ((x : Int) % 2 == 1) = true := by simp; omega
          by_cases h3 : y = 0
          · have h3' : ((y : Int) != 0) = false := by simp; omega
            have HE : Hid (rightB ⟨neg, xs, ex⟩ = false) := (show _ = _ by rw [HR.out]; simp [h3])
            clear HR h2 h3
            go_enter Tryd.func22, Tryd.ntmps22
            go_wp2
            go_ret
            exact ⟨retB (by rw [HE.out]), hend _⟩
          · have h3' : ((y : Int) != 0) = true := by simp; omega
            by_cases h4 : -65536 ≤ ex
            · by_cases h5 : ex ≤ 65536
              all_goals
                have HE : Hid (rightB ⟨neg, xs, ex⟩ = decide (ex ≤ 65536)) := (show _ = _ by rw [HR.out, Bool.eq_iff_iff]; simp; omega)
                clear HR h2 h3
                go_enter Tryd.func22, Tryd.ntmps22
                go_wp2
                go_ret
                exact ⟨retB (by rw [HE.out]; simp; omega), hend _⟩
            · have HE : Hid (rightB ⟨neg, xs, ex⟩ = false) := (show _ = _ by rw [HR.out]; simp; omega)
              clear HR h2 h3
              go_enter Tryd.func22, Tryd.ntmps22
              go_wp2
              go_ret
              exact ⟨retB (by rw [HE.out]), hend _⟩
        · have h2' : ((x : Int) % 2 == 1) = false := by simp; omega
          have HE : Hid (rightB ⟨neg, xs, ex⟩ = false) := (show _ = _ by rw [HR.out]; simp [h2])
          clear HR h2
          go_enter Tryd.func22, Tryd.ntmps22
          go_wp2
          go_ret
          exact ⟨retB (by rw [HE.out]), hend _⟩
      · have HE : Hid (rightB ⟨neg, xs, ex⟩ = false) := (show _ = _ by rw [HR.out]; simp; omega)
        clear HR
        go_enter Tryd.func22, Tryd.ntmps22
        go_wp2
        go_ret
        exact ⟨retB (by rw [HE.out]), hend _⟩
end Go.Proofs.YtokfkooffbihcaaDoor
