/- ratio.power. -/
import Derived.Test.YtnclddfljghebaaGreatDoorRtx
import Derived.Test.YtnclddfljghebaaGreatDoorQ6
namespace Go.Proofs.YtnclddfljghebaaGreatDoor
open Go.RowKit

set_option maxHeartbeats 1000000 in
theorem rpower_any (n : Nat) (hn : n ≤ 1000000) (w : World) : Calls Tryz.prog 56 #[.int .i64 n] w (GaveLW w (2 ^ n)) := by
  have e1 : 2 ^ (64 * (n / 64)) * vl [2 ^ (n % 64)] = 2 ^ n := by
    rw [show vl [2 ^ (n % 64)] = 2 ^ (n % 64) by simp [vl], ← Nat.pow_add, Nat.div_add_mod]
  have p64 : 2 ^ (n % 64) < 18446744073709551616 := Nat.lt_of_lt_of_le (Nat.pow_lt_pow_right (by omega) (Nat.mod_lt n (by omega))) (by decide)
  have LA := oneLS w (2 ^ (n % 64)) 46
  have cP := lputn_any (n / 64) [2 ^ (n % 64)] (some ⟨w.heap.size, 0, none⟩) 1 (w.alloc (.cells #[.int .u64 ((2 ^ (n % 64) : Nat) : Int)] 46)) LA (by intro x hx; rw [List.mem_singleton.1 hx]; exact p64) (by simp) (by omega)
  rw [e1] at cP
  have q1 : (n : Int).tdiv 64 = ((n / 64 : Nat) : Int) := by rw [Int.tdiv_eq_ediv_of_nonneg (by omega)]; omega
  have q2 : (n : Int).tmod 64 = ((n % 64 : Nat) : Int) := by rw [Int.tmod_eq_emod_of_nonneg (by omega)]; omega
  have hq : n / 64 ≤ 1000000 := by omega
  have r64 : n % 64 < 64 := Nat.mod_lt n (by omega)
  generalize n / 64 = q at *
  generalize n % 64 = r at *
  have pz : ((2 ^ r : Nat) : Int) = 2 ^ r := by push_cast; rfl
  have hbm : Below w.heap.size w (w.alloc (.cells #[.int .u64 ((2 ^ r : Nat) : Int)] 46)) := (Below.refl _ _).alloc (Nat.le_refl _) _
  simp only [List.length_singleton] at cP
  have w1 : wrap64 (q : Int) = (q : Int) := by unfold wrap64; omega
  have w2 : IntKind.u64.wrap (2 ^ r : Int) = (2 ^ r : Int) := by
    rw [← pz]
    have p := p64
    generalize (2 ^ r : Nat) = z at p ⊢
    exact wrapU_id (by omega) (by omega)
  rw [pz] at cP hbm
  go_enter Tryz.func56, Tryz.ntmps56
  go_wp2_with (go_at_call 75; refine cP.mono ?_; rintro e w1 ⟨no, nc, rfl, LN, b1⟩)
  go_ret
  exact ⟨no, nc, rfl, LN, hbm.trans (b1.mono hbm.size)⟩
end Go.Proofs.YtnclddfljghebaaGreatDoor
