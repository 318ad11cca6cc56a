/- What Add, Sub, Axpy and Scale answer. -/
import Derived.Test.YtojdlheblnjoiaaAf
namespace Go.Proofs.Ytojdlheblnjoiaa
open Go.RowKit

theorem GaveF.up {w0 w w' : World} {os : List (Option Nat)} {v : Value} (h : GaveF w os v w') (hb : Below w0.heap.size w0 w) : GaveF w0 os v w' := by
  obtain ⟨ao, cap, rs, h1, h2, h3, h4, h5, h6⟩ := h
  exact ⟨ao, cap, rs, h1, h2, h3, h4, h5.mono hb.size, hb.trans (h6.mono hb.size)⟩
theorem al_two {w : World} (x y : Value) (s t : TypeId) : ((w.alloc (.cells #[x] s)).alloc (.cells #[y] t)).cell? ⟨w.heap.size, 0, none⟩ = some x ∧ ((w.alloc (.cells #[x] s)).alloc (.cells #[y] t)).cell? ⟨w.heap.size + 1, 0, none⟩ = some y ∧ Below w.heap.size w ((w.alloc (.cells #[x] s)).alloc (.cells #[y] t)) := by
  refine ⟨by go_simp, by go_simp, ((Below.refl _ _).alloc (Nat.le_refl _) _).alloc (by simp) _⟩
theorem al_three {w : World} (x y z : Value) (s t u : TypeId) : (((w.alloc (.cells #[x] s)).alloc (.cells #[y] t)).alloc (.cells #[z] u)).cell? ⟨w.heap.size, 0, none⟩ = some x ∧ (((w.alloc (.cells #[x] s)).alloc (.cells #[y] t)).alloc (.cells #[z] u)).cell? ⟨w.heap.size + 1, 0, none⟩ = some y ∧ (((w.alloc (.cells #[x] s)).alloc (.cells #[y] t)).alloc (.cells #[z] u)).cell? ⟨w.heap.size + 1 + 1, 0, none⟩ = some z ∧ Below w.heap.size w (((w.alloc (.cells #[x] s)).alloc (.cells #[y] t)).alloc (.cells #[z] u)) := by
  refine ⟨by go_simp, by go_simp, by go_simp, (((Below.refl _ _).alloc (Nat.le_refl _) _).alloc (by simp) _).alloc (by simp; omega) _⟩
theorem fit_len {n k : Nat} (h : fitN n k = 0) : k = n := by
  unfold fitN at h
  split at h
  · omega
  · omega
set_option maxHeartbeats 400000 in
theorem vadd_any (xs ys : List Nat) (ao bo : Option Addr) (cap cap2 : Nat) (w : World) (hr : GRow w ao xs) (hs : GRow w bo ys) (hF : FW xs) (hG : FW ys) (hn : xs.length ≤ 17592186044416) (hm : ys.length ≤ 17592186044416) :
    Calls Try.prog 7 #[.slice ao xs.length cap, .slice bo ys.length cap2] w fun e w' => ∃ v, e = .returned (.tuple #[v, .int .i64 (fitN xs.length ys.length)]) ∧ GaveF w (ifFit xs.length ys.length (tab xs.length (adO xs ys))) v w' := by
  obtain ⟨t1, t2, t3⟩ := al_two (w := w) (.slice ao xs.length cap) (.slice bo ys.length cap2) 23 23
  have g1 := hr.below t3
  have g2 := hs.below t3
  have ct := tog_add (adO xs ys) xs.length ys.length cap cap2 _ _ ao bo _ hn hm (fun hq => add1_all xs ys ao bo cap cap2 _ _ _ g1 g2 hF hG (fit_len hq) t1 t2)
  clear g1 g2 t1 t2
  go_enter Try.func7, Try.ntmps7
  go_wp2_with (go_at_call 33; refine ct.mono ?_; rintro e w1 ⟨v, rfl, hv⟩)
  exact bodyPost_ret (v := .tuple #[v, .int .i64 (fitN xs.length ys.length)]) (by simp [results, Try.results7, go_sem]) rfl ⟨v, rfl, hv.up t3⟩
set_option maxHeartbeats 400000 in
theorem vsub_any (xs ys : List Nat) (ao bo : Option Addr) (cap cap2 : Nat) (w : World) (hr : GRow w ao xs) (hs : GRow w bo ys) (hF : FW xs) (hG : FW ys) (hn : xs.length ≤ 17592186044416) (hm : ys.length ≤ 17592186044416) :
    Calls Try.prog 9 #[.slice ao xs.length cap, .slice bo ys.length cap2] w fun e w' => ∃ v, e = .returned (.tuple #[v, .int .i64 (fitN xs.length ys.length)]) ∧ GaveF w (ifFit xs.length ys.length (tab xs.length (sbO xs ys))) v w' := by
  obtain ⟨t1, t2, t3⟩ := al_two (w := w) (.slice ao xs.length cap) (.slice bo ys.length cap2) 23 23
  have g1 := hr.below t3
  have g2 := hs.below t3
  have ct := tog_sub (sbO xs ys) xs.length ys.length cap cap2 _ _ ao bo _ hn hm (fun hq => sub1_all xs ys ao bo cap cap2 _ _ _ g1 g2 hF hG (fit_len hq) t1 t2)
  clear g1 g2 t1 t2
  go_enter Try.func9, Try.ntmps9
  go_wp2_with (go_at_call 33; refine ct.mono ?_; rintro e w1 ⟨v, rfl, hv⟩)
  exact bodyPost_ret (v := .tuple #[v, .int .i64 (fitN xs.length ys.length)]) (by simp [results, Try.results9, go_sem]) rfl ⟨v, rfl, hv.up t3⟩
set_option maxHeartbeats 400000 in
theorem vaxpy_any (t : Nat) (xs ys : List Nat) (ao bo : Option Addr) (cap cap2 : Nat) (w : World) (ht : t < 18446744073709551616) (hr : GRow w ao xs) (hs : GRow w bo ys) (hF : FW xs) (hG : FW ys) (hn : xs.length ≤ 17592186044416) (hm : ys.length ≤ 17592186044416) :
    Calls Try.prog 12 #[.float .f64 t, .slice ao xs.length cap, .slice bo ys.length cap2] w fun e w' => ∃ v, e = .returned (.tuple #[v, .int .i64 (fitN xs.length ys.length)]) ∧ GaveF w (ifFit xs.length ys.length (tab xs.length (axO t xs ys))) v w' := by
  obtain ⟨t0, t1, t2, t3⟩ := al_three (w := w) (.float .f64 t) (.slice ao xs.length cap) (.slice bo ys.length cap2) 22 23 23
  have g1 := hr.below t3
  have g2 := hs.below t3
  have ct := tog_axpy (axO t xs ys) xs.length ys.length cap cap2 _ _ _ ao bo _ hn hm (fun hq => axpy1_all t xs ys ao bo cap cap2 _ _ _ _ ht g1 g2 hF hG (fit_len hq) t0 t1 t2)
  clear g1 g2 t1 t2 t0
  go_enter Try.func12, Try.ntmps12
  go_wp2_with (go_at_call 33; refine ct.mono ?_; rintro e w1 ⟨v, rfl, hv⟩)
  exact bodyPost_ret (v := .tuple #[v, .int .i64 (fitN xs.length ys.length)]) (by simp [results, Try.results12, go_sem]) rfl ⟨v, rfl, hv.up t3⟩
set_option maxHeartbeats 400000 in
theorem vscale_any (t : Nat) (xs : List Nat) (ao : Option Addr) (cap : Nat) (w : World) (ht : t < 18446744073709551616) (hr : GRow w ao xs) (hF : FW xs) (hn : xs.length ≤ 17592186044416) :
    Calls Try.prog 17 #[.float .f64 t, .slice ao xs.length cap] w fun e w' => ∃ v, e = .returned v ∧ GaveF w (tab xs.length (scO t xs)) v w' := by
  obtain ⟨t1, t2, t3⟩ := al_two (w := w) (.float .f64 t) (.slice ao xs.length cap) 22 23
  have g1 := hr.below t3
  have ct := filled_scale (scO t xs) xs.length _ _ _ hn (scale1_all t xs ao cap _ _ _ ht g1 hF t1 t2)
  clear g1 t1 t2
  go_enter Try.func17, Try.ntmps17
  go_wp2_with (go_at_call 40; refine ct.mono ?_; rintro e w1 ⟨v, rfl, hv⟩)
  go_ret
  exact ⟨v, rfl, hv.up t3⟩
end Go.Proofs.Ytojdlheblnjoiaa
