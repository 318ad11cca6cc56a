/- JointsApart. -/
import Derived.Test.YtlhoidkfphellaaGreatDoorJA
import Derived.Test.YtlhoidkfphellaaGreatDoorJB
namespace Go.Proofs.YtlhoidkfphellaaGreatDoor
open Go.RowKit

theorem dnear_any (x : Int) (w : World) : Calls Tryz.prog 14 #[.int .i32 x] w fun e w' => e = .returned (.bool (crB x)) ∧ w' = w := by
  go_enter Tryz.func14, Tryz.ntmps14
  by_cases p : (-1048576 : Int) ≤ x
  · by_cases q : x ≤ (1048576 : Int)
    · have Hc : Hid (crB x = true) := (show _ = _ by unfold crB; simp; omega)
      go_wp2
      go_ret
      exact ⟨by rw [Hc.out]; rfl, rfl⟩
    · have Hc : Hid (crB x = false) := (show _ = _ by unfold crB; simp; omega)
      go_wp2
      go_ret
      exact ⟨by rw [Hc.out]; rfl, rfl⟩
  · have Hc : Hid (crB x = false) := (show _ = _ by unfold crB; simp; omega)
    go_wp2
    go_ret
    exact ⟨by rw [Hc.out]; rfl, rfl⟩
end Go.Proofs.YtlhoidkfphellaaGreatDoor

namespace Go.Proofs.YtlhoidkfphellaaGreatDoor
open Go.RowKit

set_option maxHeartbeats 2000000 in
theorem dapart_any (a b : Jn) (w : World) :
    Calls Tryz.prog 6 #[jV a, jV b] w fun e w' => e = .returned (.tuple #[.int .i64 (aptA a b).1, .int .i64 (aptA a b).2.1, .int .i64 (aptA a b).2.2]) ∧ Below w.heap.size w w' := by
  obtain ⟨s, x, y, f⟩ := a
  obtain ⟨t, p, q, g⟩ := b
  unfold jV
  simp only
  have X0 := (JBox.new w (.string s) (.int .i32 x) (.int .i32 y) (.int .u8 f) 23).alloc (.cells #[.string t, .int .i32 p, .int .i32 q, .int .u8 g] 23)
  have X1 := JBox.new (w.alloc (.cells #[.string s, .int .i32 x, .int .i32 y, .int .u8 f] 23)) (.string t) (.int .i32 p) (.int .i32 q) (.int .u8 g) 23
  have hs1 : (w.alloc (.cells #[.string s, .int .i32 x, .int .i32 y, .int .u8 f] 23)).heap.size = w.heap.size + 1 := by simp
  rw [hs1] at X1
  have hb0 : Below w.heap.size w ((w.alloc (.cells #[.string s, .int .i32 x, .int .i32 y, .int .u8 f] 23)).alloc (.cells #[.string t, .int .i32 p, .int .i32 q, .int .u8 g] 23)) := ((Below.refl _ _).alloc (Nat.le_refl _) _).alloc (by simp) _
  go_enter Tryz.func6, Tryz.ntmps6
  go_upto_region 1 with fail
  generalize (w.alloc (.cells #[.string s, .int .i32 x, .int .i32 y, .int .u8 f] 23)).alloc (.cells #[.string t, .int .i32 p, .int .i32 q, .int .u8 g] 23) = W0 at *
  have n1 := dnear_any x W0
  have n2 := dnear_any y W0
  have n3 := dnear_any p W0
  have n4 := dnear_any q W0
  obtain ⟨x0, x1, x2, x3, _, _, _, _, _⟩ := id X0
  obtain ⟨y0, y1, y2, y3, _, _, _, _, _⟩ := id X1
  have HA : Hid (aptA (s, x, y, f) (t, p, q, g) = if crB x && crB y && crB p && crB q then (p - x, q - y, (p - x) * (p - x) + (q - y) * (q - y)) else (0, 0, 0)) := (show _ = _ from rfl)
  clear hs1
  by_cases h : (crB x && crB y && crB p && crB q) = true
  · obtain ⟨⟨⟨a1, a2⟩, a3⟩, a4⟩ : ((crB x = true ∧ crB y = true) ∧ crB p = true) ∧ crB q = true := by simpa using h
    have HB : Hid (aptA (s, x, y, f) (t, p, q, g) = (p - x, q - y, (p - x) * (p - x) + (q - y) * (q - y))) := HA.out.trans (if_pos h)
    rw [a1] at n1
    rw [a2] at n2
    rw [a3] at n3
    rw [a4] at n4
    have a1 := kcr_le a1
    have a2 := kcr_le a2
    have a3 := kcr_le a3
    have a4 := kcr_le a4
    clear h HA
    have w1 : IntKind.i64.wrap p = p := wrap_q (by omega) (by omega)
    have w2 : IntKind.i64.wrap x = x := wrap_q (by omega) (by omega)
    have w3 : IntKind.i64.wrap q = q := wrap_q (by omega) (by omega)
    have w4 : IntKind.i64.wrap y = y := wrap_q (by omega) (by omega)
    have d1 : -2097152 ≤ p - x ∧ p - x ≤ 2097152 := by omega
    have d2 : -2097152 ≤ q - y ∧ q - y ≤ 2097152 := by omega
    have s1 := sq_le d1
    have s2 := sq_le d2
    have w5 : IntKind.i64.wrap ((p - x) * (p - x)) = (p - x) * (p - x) := wrap_q (by omega) (by omega)
    have w6 : IntKind.i64.wrap ((q - y) * (q - y)) = (q - y) * (q - y) := wrap_q (by omega) (by omega)
    have w7 : IntKind.i64.wrap ((p - x) * (p - x) + (q - y) * (q - y)) = (p - x) * (p - x) + (q - y) * (q - y) := wrap_q (by omega) (by omega)
    go_wp2_with (first | (go_at_call_of 14 (Value.int IntKind.i32 x); refine n1.mono ?_; rintro e v ⟨rfl, rfl⟩) | (go_at_call_of 14 (Value.int IntKind.i32 y); refine n2.mono ?_; rintro e v ⟨rfl, rfl⟩) | (go_at_call_of 14 (Value.int IntKind.i32 p); refine n3.mono ?_; rintro e v ⟨rfl, rfl⟩) | (go_at_call_of 14 (Value.int IntKind.i32 q); refine n4.mono ?_; rintro e v ⟨rfl, rfl⟩))
    go_ret3
    exact ⟨by rw [HB.out]; rfl, hb0⟩
  · have HB : Hid (aptA (s, x, y, f) (t, p, q, g) = (0, 0, 0)) := HA.out.trans (if_neg h)
    have h' : crB x = false ∨ (crB x = true ∧ crB y = false) ∨ (crB x = true ∧ crB y = true ∧ crB p = false) ∨ (crB x = true ∧ crB y = true ∧ crB p = true ∧ crB q = false) := by
      clear n1 n2 n3 n4 HA HB
      revert h
      cases crB x <;> cases crB y <;> cases crB p <;> cases crB q <;> simp
    clear h HA
    rcases h' with b1 | ⟨b1, b2⟩ | ⟨b1, b2, b3⟩ | ⟨b1, b2, b3, b4⟩
    all_goals
      rw [b1] at n1
      (try rw [b2] at n2)
      (try rw [b3] at n3)
      (try rw [b4] at n4)
      clear b1
      (try clear b2)
      (try clear b3)
      (try clear b4)
      go_wp2_with (first | (go_at_call_of 14 (Value.int IntKind.i32 x); refine n1.mono ?_; rintro e v ⟨rfl, rfl⟩) | (go_at_call_of 14 (Value.int IntKind.i32 y); refine n2.mono ?_; rintro e v ⟨rfl, rfl⟩) | (go_at_call_of 14 (Value.int IntKind.i32 p); refine n3.mono ?_; rintro e v ⟨rfl, rfl⟩) | (go_at_call_of 14 (Value.int IntKind.i32 q); refine n4.mono ?_; rintro e v ⟨rfl, rfl⟩))
      go_ret3
      exact ⟨by rw [HB.out]; rfl, hb0⟩
set_option maxHeartbeats 2000000 in
theorem dlength_any (a b : Jn) (w : World) (hT : TabW w) :
    Calls Tryz.prog 8 #[jV a, jV b] w fun e w' => e = .returned (.tuple #[spV (sqB 1 (l2F a b)) (sqB 2 (l2F a b)), .float .f64 (sqB 0 (l2F a b))]) ∧ Below w.heap.size w w' := by
  have hst := run_storef Tryz.prog
  have cA := fun w' => dapart_any a b w'
  obtain ⟨k, k1, k2, _⟩ := l2F_facts rfl a b
  obtain ⟨hr, hp⟩ := fin_rt k1
  have c0 := (rsqrt_B 0 (x := k) (by omega) (root_ok hr.fn.1 hp)).2.2
  have c1 := (rsqrt_B 1 (x := k) (by omega) (root_ok hr.fn.1 hp)).2.2
  have c2 := (rsqrt_B 2 (x := k) (by omega) (root_ok hr.fn.1 hp)).2.2
  have hF : floatOfInt .f64 (aptA a b).2.2 = k := k2
  rw [k2]
  clear k2 hr hp k1
  generalize sqB 1 k = lo at *
  generalize sqB 2 k = hi at *
  generalize sqB 0 k = nr at *
  generalize aptA a b = r at *
  obtain ⟨r1, r2, r3⟩ := r
  simp only at hF cA
  obtain ⟨s, x, y, f⟩ := a
  obtain ⟨t, p, q, g⟩ := b
  unfold jV at cA ⊢
  simp only at cA ⊢
  have hb0 : Below w.heap.size w (((w.alloc (.cells #[.string s, .int .i32 x, .int .i32 y, .int .u8 f] 23)).alloc (.cells #[.string t, .int .i32 p, .int .i32 q, .int .u8 g] 23)).alloc (.cells #[.float .f64 0, .float .f64 0] 28)) := (((Below.refl _ _).alloc (Nat.le_refl _) _).alloc (by simp) _).alloc (by simp; omega) _
  have R0 := Bx.new ((w.alloc (.cells #[.string s, .int .i32 x, .int .i32 y, .int .u8 f] 23)).alloc (.cells #[.string t, .int .i32 p, .int .i32 q, .int .u8 g] 23)) (.float .f64 0) (.float .f64 0) 28
  have hs1 : ((w.alloc (.cells #[.string s, .int .i32 x, .int .i32 y, .int .u8 f] 23)).alloc (.cells #[.string t, .int .i32 p, .int .i32 q, .int .u8 g] 23)).heap.size = w.heap.size + 1 + 1 := by simp
  rw [hs1] at R0
  clear hs1
  go_enter Tryz.func8, Tryz.ntmps8
  go_upto_region 2 with (go_at_call 6; refine (cA _).mono ?_; rintro e w1 ⟨rfl, b1⟩)
  replace R0 := R0.below b1
  have hb1 := hb0.trans (b1.mono hb0.size)
  clear b1 cA hb0
  have T1 := tabW_below hT hb1
  have hz : w.heap.size ≤ w.heap.size + 1 + 1 := by omega
  generalize w.heap.size + 1 + 1 = G at *
  go_wp2_with (first
    | (go_at_call_of 17 (Value.int IntKind.i8 1); refine (c1 _ T1).mono ?_; rintro e v1 ⟨rfl, d1⟩; have e1 := hb1.trans (d1.mono hb1.size))
    | (go_at_call_of 17 (Value.int IntKind.i8 2); refine (c2 _ (tabW_below hT e1)).mono ?_; rintro e v2 ⟨rfl, d2⟩; have e2 := e1.trans (d2.mono e1.size))
    | (go_at_call_of 17 (Value.int IntKind.i8 0); refine (c0 _ (tabW_below hT e2)).mono ?_; rintro e v3 ⟨rfl, d3⟩; have e3 := e2.trans (d3.mono e2.size); have R3 := ((R0.below d1).below d2).below d3; obtain ⟨u0, u1, u2, u3, _⟩ := id R3))
  have c0 : ((v3.setCell ⟨G, 0, none⟩ (.float .f64 lo)).setCell ⟨G, 1, none⟩ (.float .f64 hi)).cell? ⟨G, 0, none⟩ = some (.float .f64 lo) := by simp [go_sem, u0]
  have c1 : ((v3.setCell ⟨G, 0, none⟩ (.float .f64 lo)).setCell ⟨G, 1, none⟩ (.float .f64 hi)).cell? ⟨G, 1, none⟩ = some (.float .f64 hi) := by simp [go_sem, u1]
  exact bodyPost_ret (v := .tuple #[spV lo hi, .float .f64 nr]) (by simp [results, Tryz.results8, go_sem, c0, c1]) rfl ⟨rfl, set2 e3 hz _ _⟩
end Go.Proofs.YtlhoidkfphellaaGreatDoor

namespace Go.Proofs.YtlhoidkfphellaaGreatDoor
open Go.RowKit

set_option maxHeartbeats 4000000 in
theorem apart_law (a b : Jn) (w : World) (hT : TabW w) :
    Calls Tryz.prog 3 #[jV a, jV b] w fun e w' => e = .returned (.bool true) ∧ Below w.heap.size w w' := by
  have hst := run_storef Tryz.prog
  have cA := fun w' => apart_any a b w'
  have cB := fun w' => dapart_any a b w'
  have cL := fun w' (t : TabW w') => length_any a b w' t
  have cM := fun w' (t : TabW w') => dlength_any a b w' t
  obtain ⟨k, k1, k2, _⟩ := l2F_facts rfl a b
  obtain ⟨hr, hp⟩ := fin_rt k1
  have l0 := (rsqrt_B 0 (x := k) (by omega) (root_ok hr.fn.1 hp)).1
  have l1 := (rsqrt_B 1 (x := k) (by omega) (root_ok hr.fn.1 hp)).1
  have l2 := (rsqrt_B 2 (x := k) (by omega) (root_ok hr.fn.1 hp)).1
  rw [k2] at cL cM
  clear k2 hr hp k1
  generalize sqB 1 k = xl at *
  generalize sqB 2 k = xh at *
  generalize sqB 0 k = xn at *
  generalize aptA a b = r at *
  obtain ⟨r1, r2, r3⟩ := r
  simp only at cA cB
  have cS := fun w' => ssame_self xl xh l1 l2 w'
  have cF := fun w' => samef_self xn l0 w'
  have ca := fun w' (t : TabW w') => jawake_any w' t
  have n1 : (r1 == r1) = true := by simp
  have n2 : (r2 == r2) = true := by simp
  have n3 : (r3 == r3) = true := by simp
  obtain ⟨s, x, y, f⟩ := a
  obtain ⟨t, p, q, g⟩ := b
  unfold jV at cA cB cL cM ⊢
  simp only at cA cB cL cM ⊢
  have X0 := (JBox.new w (.string s) (.int .i32 x) (.int .i32 y) (.int .u8 f) 23).alloc (.cells #[.string t, .int .i32 p, .int .i32 q, .int .u8 g] 23)
  have X1 := JBox.new (w.alloc (.cells #[.string s, .int .i32 x, .int .i32 y, .int .u8 f] 23)) (.string t) (.int .i32 p) (.int .i32 q) (.int .u8 g) 23
  have hs1 : (w.alloc (.cells #[.string s, .int .i32 x, .int .i32 y, .int .u8 f] 23)).heap.size = w.heap.size + 1 := by simp
  rw [hs1] at X1
  have hb0 : Below w.heap.size w ((w.alloc (.cells #[.string s, .int .i32 x, .int .i32 y, .int .u8 f] 23)).alloc (.cells #[.string t, .int .i32 p, .int .i32 q, .int .u8 g] 23)) := ((Below.refl _ _).alloc (Nat.le_refl _) _).alloc (by simp) _
  clear hs1
  go_enter Tryz.func3, Tryz.ntmps3
  go_upto_region 1 with fail
  generalize (w.alloc (.cells #[.string s, .int .i32 x, .int .i32 y, .int .u8 f] 23)).alloc (.cells #[.string t, .int .i32 p, .int .i32 q, .int .u8 g] 23) = W0 at *
  obtain ⟨x0, x1, x2, x3, _, _, _, _, _⟩ := id X0
  obtain ⟨y0, y1, y2, y3, _, _, _, _, _⟩ := id X1
  go_upto_region 2 with (go_at_call 5; refine (cA _).mono ?_; rintro e v1 ⟨rfl, b1⟩)
  have hb1 := hb0.trans (b1.mono hb0.size)
  replace X0 := X0.below b1
  replace X1 := X1.below b1
  clear x0 x1 x2 x3 y0 y1 y2 y3 cA b1 hb0
  obtain ⟨x0, x1, x2, x3, _, _, _, _, _⟩ := id X0
  obtain ⟨y0, y1, y2, y3, _, _, _, _, _⟩ := id X1
  go_upto_region 3 with (go_at_call 6; refine (cB _).mono ?_; rintro e v2 ⟨rfl, b2⟩)
  have hb2 := hb1.trans (b2.mono hb1.size)
  replace X0 := X0.below b2
  replace X1 := X1.below b2
  clear x0 x1 x2 x3 y0 y1 y2 y3 cB b2 hb1
  obtain ⟨x0, x1, x2, x3, _, _, _, _, _⟩ := id X0
  obtain ⟨y0, y1, y2, y3, _, _, _, _, _⟩ := id X1
  have T2 := tabW_below hT hb2
  go_upto_region 4 with (go_at_call 7; refine (cL _ T2).mono ?_; rintro e v3 ⟨rfl, b3⟩)
  have hb3 := hb2.trans (b3.mono hb2.size)
  replace hb3 := hb3.alloc hb3.size (.cells #[.float .f64 xl, .float .f64 xh] 28)
  replace X0 := (X0.below b3).alloc (.cells #[.float .f64 xl, .float .f64 xh] 28)
  replace X1 := (X1.below b3).alloc (.cells #[.float .f64 xl, .float .f64 xh] 28)
  have S1 := Bx.new v3 (.float .f64 xl) (.float .f64 xh) 28
  generalize v3.alloc (.cells #[.float .f64 xl, .float .f64 xh] 28) = W3 at *
  generalize v3.heap.size = G1 at *
  clear x0 x1 x2 x3 y0 y1 y2 y3 cL b3 hb2 T2
  obtain ⟨x0, x1, x2, x3, _, _, _, _, _⟩ := id X0
  obtain ⟨y0, y1, y2, y3, _, _, _, _, _⟩ := id X1
  have T3 := tabW_below hT hb3
  go_upto_region 5 with (go_at_call 8; refine (cM _ T3).mono ?_; rintro e v4 ⟨rfl, b4⟩)
  have hb4 := hb3.trans (b4.mono hb3.size)
  replace hb4 := hb4.alloc hb4.size (.cells #[.float .f64 xl, .float .f64 xh] 28)
  replace S1 := (S1.below b4).alloc (.cells #[.float .f64 xl, .float .f64 xh] 28)
  have S2 := Bx.new v4 (.float .f64 xl) (.float .f64 xh) 28
  generalize v4.alloc (.cells #[.float .f64 xl, .float .f64 xh] 28) = W4 at *
  generalize v4.heap.size = G2 at *
  clear x0 x1 x2 x3 y0 y1 y2 y3 cM b4 hb3 T3 X0 X1
  obtain ⟨s0, s1, _, _, _⟩ := id S1
  obtain ⟨t0, t1, _, _, _⟩ := id S2
  go_wp2_with (first
    | (go_at_call 9; refine (cS _).mono ?_; rintro e v5 ⟨rfl, b5⟩; have hb5 := hb4.trans (b5.mono hb4.size))
    | (go_at_call 10; refine (cF _).mono ?_; rintro e v6 ⟨rfl, rfl⟩)
    | (go_at_call 11; refine (ca _ (tabW_below hT hb5)).mono ?_; rintro e v7 ⟨rfl, b7⟩))
  go_ret
  exact ⟨rfl, hb5.trans (b7.mono hb5.size)⟩
end Go.Proofs.YtlhoidkfphellaaGreatDoor
