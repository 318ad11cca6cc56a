/- What the reference's Right, Dyad answer. -/
import Derived.Test.YtjjchlfdaacddaaDoorNm
namespace Go.Proofs.YtjjchlfdaacddaaDoor
open Go.RowKit

set_option maxHeartbeats 1000000 in
theorem dright_any (d : Dy) (ao : Option Addr) (cap : Nat) (w : World) (hr : LRow w ao d.mag) (hL : Lm d.mag) :
    Calls Tryd.prog 16 #[.agg #[.bool d.neg, .slice ao d.mag.length cap, .int .i64 d.exp]] w fun e w' => e = .returned (.bool (rightB d)) ∧ Below w.heap.size w w' := by
  obtain ⟨neg, xs, ex⟩ := d
  have hend : ∀ o1, Below w.heap.size w (w.alloc o1) := fun o1 => (Below.refl _ _).alloc (Nat.le_refl _) o1
  simp only at *
  by_cases h0 : xs.length = 0
  · have HE : Hid (rightB ⟨neg, xs, ex⟩ = (!neg && decide (ex = 0))) := (show rightB ⟨neg, xs, ex⟩ = _ by unfold rightB; rw [if_pos (by exact h0)])
    rw [h0]
    cases neg
    all_goals
      go_enter Tryd.func16, Tryd.ntmps16
      go_wp2
      go_ret
      exact ⟨retB (by rw [HE.out]; first | rfl | (rw [Bool.eq_iff_iff]; simp)), hend _⟩
  · rcases hr with h | ⟨b, off, rfl, hc⟩
    · omega
    · have g0 := fun o => cell_alloc (hc 0 (by omega)) o
      have g1 := fun o => cell_alloc (hc (xs.length - 1) (by omega)) o
      have k0 := hL.getD 0
      have HR : Hid (rightB ⟨neg, xs, ex⟩ = decide (xs.length ≤ 256 ∧ xs.getD 0 0 % 2 = 1 ∧ xs.getD (xs.length - 1) 0 ≠ 0 ∧ -65536 ≤ ex ∧ ex ≤ 65536)) := (show rightB ⟨neg, xs, ex⟩ = _ by unfold rightB; rw [if_neg (by exact h0)])
      generalize xs.getD 0 0 = x at *
      generalize xs.getD (xs.length - 1) 0 = y at *
      have hn0 : ((xs.length : Int) == 0) = false := beq_eq_false_iff_ne.2 (by omega)
      simp only [Nat.add_zero] at g0
      clear hc hL
      by_cases h1 : (xs.length : Int) ≤ 256
      · by_cases h3 : y = 0
        · have h3' : ((y : Int) != 0) = false := by simp; omega
          have HE : Hid (rightB ⟨neg, xs, ex⟩ = false) := (show _ = _ by rw [HR.out]; simp [h3])
          clear HR h3
          go_enter Tryd.func16, Tryd.ntmps16
          go_wp2
          go_ret
          exact ⟨retB (by rw [HE.out]), hend _⟩
        · have h3' : ((y : Int) != 0) = true := by simp; omega
          by_cases h2 : x % 2 = 1
          · have h2' : ((x : Int) % 2 == 1) = true := by simp; omega
            by_cases h4 : -65536 ≤ ex
            · by_cases h5 : ex ≤ 65536
              all_goals
                have HE : Hid (rightB ⟨neg, xs, ex⟩ = decide (ex ≤ 65536)) := (show _ = _ by rw [HR.out, Bool.eq_iff_iff]; simp; omega)
                clear HR h2 h3
                go_enter Tryd.func16, Tryd.ntmps16
                go_wp2
                go_ret
                exact ⟨retB (by rw [HE.out]; simp; omega), hend _⟩
            · have HE : Hid (rightB ⟨neg, xs, ex⟩ = false) := (show _ = _ by rw [HR.out]; simp; omega)
              clear HR h2 h3
              go_enter Tryd.func16, Tryd.ntmps16
              go_wp2
              go_ret
              exact ⟨retB (by rw [HE.out]), hend _⟩
          · have h2' : ((x : Int) % 2 == 1) = false := by simp; omega
            have HE : Hid (rightB ⟨neg, xs, ex⟩ = false) := (show _ = _ by rw [HR.out]; simp [h2])
            clear HR h2 h3
            go_enter Tryd.func16, Tryd.ntmps16
            go_wp2
            go_ret
            exact ⟨retB (by rw [HE.out]), hend _⟩
      · have HE : Hid (rightB ⟨neg, xs, ex⟩ = false) := (show _ = _ by rw [HR.out]; simp; omega)
        clear HR
        go_enter Tryd.func16, Tryd.ntmps16
        go_wp2
        go_ret
        exact ⟨retB (by rw [HE.out]), hend _⟩
set_option maxHeartbeats 2000000 in
theorem ddyad_any (d : Dy) (ao : Option Addr) (cap : Nat) (w : World) (hr : NS w ao cap d.mag) (hL : Lm d.mag) (hl : d.mag.length ≤ 17592186044416) :
    Calls Tryd.prog 51 #[.agg #[.bool d.neg, .slice ao d.mag.length cap, .int .i64 d.exp]] w (GaveM w ⟨d.neg, lo (vl d.mag), d.exp⟩) := by
  obtain ⟨neg, xs, ex⟩ := d
  simp only at *
  have hT := fun w' (h : NS w' ao cap xs) => natTrim_any xs ao cap w' h hL hl
  have hr2 : NS ((w.alloc (.cells #[.bool neg, .slice ao xs.length cap, .int .i64 ex] 24)).alloc (.cells #[.bool false, .slice none 0 0, .int .i64 0] 64)).drew ao cap xs := hr.below ((((Below.refl _ _).alloc (Nat.le_refl _) _).alloc (by simp) _).drew)
  go_enter Tryd.func51, Tryd.ntmps51
  go_wp2
  go_region_held3 (fun w' => w'.cell? ⟨w.heap.size, 0, none⟩ = some (.bool neg) ∧ w'.cell? ⟨w.heap.size, 1, none⟩ = some (.slice ao xs.length cap) ∧ w'.cell? ⟨w.heap.size, 2, none⟩ = some (.int .i64 ex)) (go_keep)
    (first | (go_at_call 48; refine (hT _ hr2).mono ?_; rintro e w1 ⟨ao1, cap1, rfl, h1, f1, b1⟩; replace b1 := undrew b1; obtain ⟨⟨c0, c1, c2⟩, ⟨d0, d1, d2⟩, ⟨f0, f1', f2⟩, _⟩ := box2 b1))
  clear c0 c1 c2 hr2
  have hfr2 : Frs (w.heap.size + 2) ao1 := f1.mono (by simp)
  go_wp2
  refine bodyPost_ret (v := .agg #[.bool neg, .slice ao1 (lo (vl xs)).length cap1, .int .i64 ex]) (by simp [results, Tryd.results51, go_sem, d0, d1, d2]) rfl ⟨ao1, cap1, rfl, ?_, hfr2.mono (by omega), box2_end b1 _ _ _⟩
  exact ⟨((h1.1.box hfr2 (by omega) _ _).box hfr2 (by omega) _ _).box hfr2 (by omega) _ _, h1.2⟩
end Go.Proofs.YtjjchlfdaacddaaDoor
