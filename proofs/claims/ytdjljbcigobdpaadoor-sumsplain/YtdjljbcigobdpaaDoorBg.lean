/- What allFinite, few and TwoSum answer. -/
import Derived.Test.YtdjljbcigobdpaaDoorBf
namespace Go.Proofs.YtdjljbcigobdpaaDoor
open Go.RowKit

set_option maxHeartbeats 1000000 in
theorem allfin_any (xs : List Nat) (ao : Option Addr) (cap : Nat) (w : World) (hr : GRow w ao xs) (hF : FW xs) (hn : xs.length ≤ 1125899906842624) :
    Calls Tryd.prog 22 #[.slice ao xs.length cap] w fun e w' => e = .returned (.bool (xs.all finB)) ∧ w' = w := by
  go_enter Tryd.func22, Tryd.ntmps22
  go_wp2
  go_loopg [3, 6] xs.length (fun g _ i wr => ∃ k : Nat, k ≤ xs.length ∧ g = xs.length - k ∧ i = .int .i64 k ∧ Hid (∀ j, j < k → finB (xs.getD j 0) = true) ∧ wr = w)
  case atStart => exact ⟨0, Nat.zero_le _, rfl, rfl, fun j h => by omega, rfl⟩
  case round =>
    obtain ⟨k, hk, hg, rfl, hz, rfl⟩ := hrel
    have HG : Hid (gk = xs.length - k) := hg
    clear hg
    by_cases hlt : k < xs.length
    · rcases hr with h | ⟨b, off, rfl, hc⟩
      · omega
      · have g1 := hc k hlt
        have hx := hF.at hlt
        obtain ⟨x, ex⟩ : ∃ x, xs.getD k 0 = x := ⟨_, rfl⟩
        rw [ex] at g1 hx
        have hf := fin_le x
        have i1 : (k : Int) < (xs.length : Int) := by omega
        cases fx : finB x <;> rw [fx] at hf
        · have HE : Hid (xs.all finB = false) := (show xs.all finB = false by
            rw [List.all_eq_false]
            refine ⟨x, ?_, by rw [fx]; decide⟩
            rw [← ex, getD_at hlt]
            exact List.getElem_mem hlt)
          clear hc ex hz
          go_wp2_with (go_at_call 16; refine (abs_any x hx _).mono ?_; rintro e w' ⟨rfl, rfl⟩)
          go_ret
          exact ⟨by rw [HE.out]; rfl, rfl⟩
        · have HZ : Hid (∀ j, j < k + 1 → finB (xs.getD j 0) = true) := fun j h => by
            by_cases e : j = k
            · rw [e, ex]; exact fx
            · exact hz.out j (by omega)
          clear hc ex hz
          go_wp2_with (go_at_call 16; refine (abs_any x hx _).mono ?_; rintro e w' ⟨rfl, rfl⟩)
          go_roundg (xs.length - (k + 1))
          case measure => rw [HG.out]; omega
          case rel => exact ⟨k + 1, by omega, rfl, by go_num, HZ, rfl⟩
    · have HE : Hid (xs.all finB = true) := (show xs.all finB = true by
        rw [List.all_eq_true]
        intro x hx
        obtain ⟨j, hj, e⟩ := List.mem_iff_getElem.1 hx
        have := hz.out j (by omega)
        rw [getD_at hj, e] at this
        exact this)
      have i1 : ¬ (k : Int) < (xs.length : Int) := by omega
      clear hz
      go_wp2
      go_ret
      exact ⟨by rw [HE.out]; rfl, rfl⟩
set_option maxHeartbeats 400000 in
theorem few_any (n cap : Nat) (ao : Option Addr) (w : World) (hc : n ≤ cap) (hn : cap ≤ 1125899906842624) :
    Calls Tryd.prog 4 #[.slice ao n cap] w fun e w' => e = .returned (.slice ao (if 4096 < n then 4096 else n) cap) ∧ w' = w := by
  by_cases h : 4096 < n
  · rw [if_pos h]
    have i1 : (4096 : Int) < (n : Int) := by omega
    have i2 : (4096 : Int) ≤ (cap : Int) := by omega
    go_enter Tryd.func4, Tryd.ntmps4
    go_wp2
    go_ret
    exact ⟨rfl, rfl⟩
  · rw [if_neg h]
    have i1 : ¬ (4096 : Int) < (n : Int) := by omega
    go_enter Tryd.func4, Tryd.ntmps4
    go_wp2
    go_ret
    exact ⟨rfl, rfl⟩
theorem few_len (xs : List Nat) : (xs.take 4096).length = if 4096 < xs.length then 4096 else xs.length := by rw [List.length_take]; split <;> omega
/-- What a literal list's cells are. -/
theorem three_row (w : World) (x y z : Nat) (t : TypeId) : GRow (w.alloc (.cells #[.float .f64 x, .float .f64 y, .float .f64 z] t)) (some ⟨w.heap.size, 0, none⟩) [x, y, z] := by
  right
  refine ⟨w.heap.size, 0, rfl, fun j hj => ?_⟩
  have h3 : j < 3 := by simpa using hj
  rcases (show j = 0 ∨ j = 1 ∨ j = 2 by omega) with rfl | rfl | rfl <;> simp [go_sem]
set_option maxHeartbeats 400000 in
theorem twosum_lit (a b s p q x y r : Nat) (h1 : floatBits .add .f64 a b = some s) (h2 : floatBits .sub .f64 s a = some p) (h3 : floatBits .sub .f64 s p = some q) (h4 : floatBits .sub .f64 a q = some x) (h5 : floatBits .sub .f64 b p = some y) (h6 : floatBits .add .f64 x y = some r) (w : World) :
    Calls Tryd.prog 19 #[.float .f64 a, .float .f64 b] w fun e w' => e = .returned (.tuple #[.float .f64 s, .float .f64 r]) ∧ w' = w := by
  have o1 := fun w => run_float_arith (P := Tryd.prog) w .add 25 .f64 _ _ _ h1
  have o2 := fun w => run_float_arith (P := Tryd.prog) w .sub 25 .f64 _ _ _ h2
  have o3 := fun w => run_float_arith (P := Tryd.prog) w .sub 25 .f64 _ _ _ h3
  have o4 := fun w => run_float_arith (P := Tryd.prog) w .sub 25 .f64 _ _ _ h4
  have o5 := fun w => run_float_arith (P := Tryd.prog) w .sub 25 .f64 _ _ _ h5
  have o6 := fun w => run_float_arith (P := Tryd.prog) w .add 25 .f64 _ _ _ h6
  have hcv := conv64
  clear h1 h2 h3 h4 h5 h6
  go_enter Tryd.func19, Tryd.ntmps19
  go_wp2
  exact bodyPost_ret (v := .tuple #[.float .f64 s, .float .f64 r]) (by simp [results, Tryd.results19, go_sem]) rfl ⟨rfl, rfl⟩
end Go.Proofs.YtdjljbcigobdpaaDoor
