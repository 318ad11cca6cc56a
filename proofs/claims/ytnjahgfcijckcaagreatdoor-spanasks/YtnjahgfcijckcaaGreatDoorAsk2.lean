/- The document's Holds. -/
import Derived.Test.YtnjahgfcijckcaaGreatDoorAsk1
namespace Go.Proofs.YtnjahgfcijckcaaGreatDoor
open Go.RowKit

/-- The document's Holds. -/
def hoB (l u : Nat) (d : Dy) : Bool := sRt l u && rightB d && hnB l u ⟨d.neg, lo (vl d.mag), d.exp⟩
set_option maxRecDepth 100000 in
set_option maxHeartbeats 4000000 in
theorem rholds_any (l u : Nat) (d : Dy) (ao : Option Addr) (cap : Nat) (w : World) (hl : l < 18446744073709551616) (hu : u < 18446744073709551616) (hr : NS w ao cap d.mag) (hL : Lm d.mag) :
    Calls Tryz.prog 15 #[spV l u, .agg #[.bool d.neg, .slice ao d.mag.length cap, .int .i64 d.exp]] w fun e w' => e = .returned (.bool (hoB l u d)) ∧ Below w.heap.size w w' := by
  have r1 := fun W => rright_any l u hl hu W
  have r2 := fun W (h : LRow W ao d.mag) => dright_any d ao cap W h hL
  have rD := fun (h : rightB d = true) W (g : NS W ao cap d.mag) => ddyad_any d ao cap W g hL (by have := (right_exp h).2.2; omega)
  have rH := fun (h : rightB d = true) o1 c1 W (g : NS W o1 c1 (lo (vl d.mag))) => hasnum_any l u d.neg (lo (vl d.mag)) d.exp o1 c1 W hl hu g (lo_lm _) (by have := (right_exp h).2.2; have := lo_len hL; omega) (right_exp h).1 (right_exp h).2.1
  have HB : Hid (hoB l u d = (sRt l u && rightB d && hnB l u ⟨d.neg, lo (vl d.mag), d.exp⟩)) := (show _ = _ from rfl)
  generalize hoB l u d = T at *
  generalize hnB l u ⟨d.neg, lo (vl d.mag), d.exp⟩ = g at *
  generalize sRt l u = s at *
  generalize rightB d = r at *
  obtain ⟨n, xs, ex⟩ := d
  simp only at *
  generalize lo (vl xs) = ys at *
  have P0 : Bx ((w.alloc (.cells #[.float .f64 l, .float .f64 u] 24)).alloc (.cells #[.bool n, .slice ao xs.length cap, .int .i64 ex] 27)) w.heap.size (.float .f64 l) (.float .f64 u) := (Bx.new w _ _ _).alloc _
  have Q0 : C3 ((w.alloc (.cells #[.float .f64 l, .float .f64 u] 24)).alloc (.cells #[.bool n, .slice ao xs.length cap, .int .i64 ex] 27)) (w.heap.size + 1) (.bool n) (.slice ao xs.length cap) (.int .i64 ex) := C3.newAt (by go_simp) _ _ _ _
  have Z0 : Below w.heap.size w ((w.alloc (.cells #[.float .f64 l, .float .f64 u] 24)).alloc (.cells #[.bool n, .slice ao xs.length cap, .int .i64 ex] 27)) := ((Below.refl _ _).alloc (Nat.le_refl _) _).alloc (by simp) _
  have R0 := hr.below Z0
  go_enter Tryz.func15, Tryz.ntmps15
  go_upto_region 1 with fail
  generalize (w.alloc (.cells #[.float .f64 l, .float .f64 u] 24)).alloc (.cells #[.bool n, .slice ao xs.length cap, .int .i64 ex] 27) = W at *
  obtain ⟨p, hp⟩ : ∃ p, w.heap.size = p := ⟨_, rfl⟩
  obtain ⟨q, hq⟩ : ∃ q, w.heap.size + 1 = q := ⟨_, rfl⟩
  rw [hp] at P0
  rw [hq] at Q0 ⊢
  rw [show (Value.pointer (some ⟨w.heap.size, 0, none⟩)) = Value.pointer (some ⟨p, 0, none⟩) by rw [hp]]
  clear hp hq hr hL
  obtain ⟨ka0, ka1, _⟩ := id P0
  obtain ⟨kc0, kc1, kc2, _⟩ := id Q0
  have hne : Nonempty (LQ W) := LQ.any _
  have k0 : ∀ v : LQ W, v.val.cell? ⟨p, 0, none⟩ = some (.float .f64 l) := fun v => v.cell ka0
  have k1 : ∀ v : LQ W, v.val.cell? ⟨p, 1, none⟩ = some (.float .f64 u) := fun v => v.cell ka1
  have j0 : ∀ v : LQ W, v.val.cell? ⟨q, 0, none⟩ = some (.bool n) := fun v => v.cell kc0
  have j1 : ∀ v : LQ W, v.val.cell? ⟨q, 1, none⟩ = some (.slice ao xs.length cap) := fun v => v.cell kc1
  have j2 : ∀ v : LQ W, v.val.cell? ⟨q, 2, none⟩ = some (.int .i64 ex) := fun v => v.cell kc2
  have rL : ∀ v : LQ W, LRow v.val ao xs := fun v => (R0.below v.below).1
  cases s
  · clear r2 rD rH
    refine region_lq (by kernel_rfl) (by kernel_rfl) ?_
    repeat (quiet_step ((go_at_call 32; exact lq_of (r1 _))))
    refine wpQuiet_nil ?_
    intro w' hw'
    obtain ⟨v, rfl⟩ := hw'
    have z1 := v.below
    go_wp2
    go_ret
    exact ⟨retB (by rw [HB.out]; rfl), Z0.trans (z1.mono Z0.size)⟩
  · cases r
    · clear rD rH
      refine region_lq (by kernel_rfl) (by kernel_rfl) ?_
      repeat (quiet_step (first | (go_at_call 32; exact lq_of (r1 _)) | (go_at_call 42; exact lq_of (r2 _ (rL _)))))
      refine wpQuiet_nil ?_
      intro w' hw'
      obtain ⟨v, rfl⟩ := hw'
      have z1 := v.below
      go_wp2
      go_ret
      exact ⟨retB (by rw [HB.out]; rfl), Z0.trans (z1.mono Z0.size)⟩
    · have rD' := rD rfl
      have rH' := rH rfl
      clear rD rH hne k0 k1 j0 j1 j2 rL
      go_region_with (first
        | (go_at_call 32; refine (r1 _).mono ?_; rintro e v1 ⟨rfl, y1⟩; have z1 := undrew y1; obtain ⟨ka0, ka1, _⟩ := P0.below z1; obtain ⟨kc0, kc1, kc2, _⟩ := Q0.below z1)
        | (go_at_call 42; refine (r2 _ (R0.below z1).1).mono ?_; rintro e v2 ⟨rfl, y2⟩; have z2 := z1.trans (y2.mono z1.size); obtain ⟨ka0, ka1, _⟩ := P0.below z2; obtain ⟨kc0, kc1, kc2, _⟩ := Q0.below z2)
        | (go_at_call 44; refine (rD' _ (R0.below z2)).mono ?_; rintro e v3 ⟨oa, ca, rfl, ua, fa, y3⟩; have z3 := z2.trans (y3.mono z2.size); obtain ⟨ka0, ka1, _⟩ := P0.below z3; obtain ⟨kc0, kc1, kc2, _⟩ := Q0.below z3)
        | (go_at_call 43; refine (rH' _ _ _ ua).mono ?_; rintro e v4 ⟨rfl, y4⟩; have z4 := z3.trans (y4.mono z3.size)))
      all_goals
        go_wp2
        go_ret
        exact ⟨retB (by rw [HB.out]; rfl), Z0.trans (z4.mono Z0.size)⟩
end Go.Proofs.YtnjahgfcijckcaaGreatDoor
