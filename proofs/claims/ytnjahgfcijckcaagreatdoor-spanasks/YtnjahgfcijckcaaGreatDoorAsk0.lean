/- The document's lesser, greater, Meet, Has, In of any spans, call by call. -/
import Derived.Test.YtnjahgfcijckcaaGreatDoorTm
import Derived.Test.YtnjahgfcijckcaaGreatDoorZj
import Derived.Test.YtnjahgfcijckcaaGreatDoorRb
namespace Go.Proofs.YtnjahgfcijckcaaGreatDoor
open Go.RowKit

set_option maxHeartbeats 400000 in
theorem rles_any (a b : Nat) (ha : a < 18446744073709551616) (hb : b < 18446744073709551616) (w : World) :
    Calls Tryz.prog 34 #[.float .f64 a, .float .f64 b] w fun e w' => e = .returned (.float .f64 (lsF a b)) ∧ w' = w := by
  have co := rorder_any b a hb ha
  have HE : Hid (lsF a b = if ordF b a < 0 then b else a) := rfl
  by_cases q : ordF b a < 0
  · have hv : lsF a b = b := by rw [HE.out, if_pos q]
    rw [hv]
    go_enter Tryz.func34, Tryz.ntmps34
    go_wp2_with (go_at_call 56; refine (co _).mono ?_; rintro e w' ⟨rfl, rfl⟩)
    go_ret
    exact ⟨rfl, rfl⟩
  · have hv : lsF a b = a := by rw [HE.out, if_neg q]
    rw [hv]
    go_enter Tryz.func34, Tryz.ntmps34
    go_wp2_with (go_at_call 56; refine (co _).mono ?_; rintro e w' ⟨rfl, rfl⟩)
    go_ret
    exact ⟨rfl, rfl⟩
set_option maxHeartbeats 400000 in
theorem rgre_any (a b : Nat) (ha : a < 18446744073709551616) (hb : b < 18446744073709551616) (w : World) :
    Calls Tryz.prog 33 #[.float .f64 a, .float .f64 b] w fun e w' => e = .returned (.float .f64 (grF a b)) ∧ w' = w := by
  have co := rorder_any b a hb ha
  have HE : Hid (grF a b = if 0 < ordF b a then b else a) := rfl
  by_cases q : 0 < ordF b a
  · have hv : grF a b = b := by rw [HE.out, if_pos q]
    rw [hv]
    go_enter Tryz.func33, Tryz.ntmps33
    go_wp2_with (go_at_call 56; refine (co _).mono ?_; rintro e w' ⟨rfl, rfl⟩)
    go_ret
    exact ⟨rfl, rfl⟩
  · have hv : grF a b = a := by rw [HE.out, if_neg q]
    rw [hv]
    go_enter Tryz.func33, Tryz.ntmps33
    go_wp2_with (go_at_call 56; refine (co _).mono ?_; rintro e w' ⟨rfl, rfl⟩)
    go_ret
    exact ⟨rfl, rfl⟩
set_option maxHeartbeats 1600000 in
theorem rmeet_not (a b c d : Nat) (ha : a < 18446744073709551616) (hb : b < 18446744073709551616) (hc : c < 18446744073709551616) (hd : d < 18446744073709551616) (hr : (sRt a b && sRt c d) = false) (w : World) :
    Calls Tryz.prog 7 #[spV a b, spV c d] w fun e w' => e = .returned (.tuple #[spV 0 0, .int .i64 2]) ∧ Below w.heap.size w w' := by
  have hst := run_storef Tryz.prog
  have r1 := fun w => rright_any a b ha hb w
  have r2 := fun w => rright_any c d hc hd w
  cases q1 : sRt a b
  · rw [q1] at r1
    go_enter Tryz.func7, Tryz.ntmps7
    go_wp2_with (go_at_call 32; refine (r1 _).mono ?_; rintro e w1 ⟨rfl, b1⟩; obtain ⟨c0, c1, f0, f1, _⟩ := (Bx.new2 _ _ _ _ _ _).below b1)
    exact bodyPost_ret (v := .tuple #[spV 0 0, .int .i64 2]) (by simp [results, Tryz.results7, go_sem, c0, c1]) rfl ⟨rfl, set2 (old3 b1) (by omega) _ _⟩
  · rw [q1] at r1 hr
    rw [show sRt c d = false by simpa using hr] at r2
    go_enter Tryz.func7, Tryz.ntmps7
    go_wp2_with (first | (go_at_call_of 32 (Value.agg #[Value.float FloatKind.f64 a, Value.float FloatKind.f64 b]); refine (r1 _).mono ?_; rintro e v1 ⟨rfl, b1⟩; obtain ⟨ka0, ka1, _⟩ := (((Bx.new _ _ _ _).alloc _).alloc _).below b1; obtain ⟨kc0, kc1, _⟩ := ((Bx.new1 _ _ _ _ _).alloc _).below b1) | (go_at_call_of 32 (Value.agg #[Value.float FloatKind.f64 c, Value.float FloatKind.f64 d]); refine (r2 _).mono ?_; rintro e W ⟨rfl, b2⟩; obtain ⟨c0, c1, f0, f1, _⟩ := ((Bx.new2 _ _ _ _ _ _).below b1).below b2; have Z0 := (old3 b1).trans (b2.mono (old3 b1).size)))
    exact bodyPost_ret (v := .tuple #[spV 0 0, .int .i64 2]) (by simp [results, Tryz.results7, go_sem, c0, c1]) rfl ⟨rfl, set2 Z0 (by omega) _ _⟩
set_option maxHeartbeats 4000000 in
theorem rmeet_yes (a b c d g l : Nat) (k : Bool) (eg : Hid (g = grF a c)) (el : Hid (l = lsF b d)) (ok : (FloatKind.f64.format.order g l == some .gt) = k) (ha : a < 18446744073709551616) (hb : b < 18446744073709551616) (hc : c < 18446744073709551616) (hd : d < 18446744073709551616) (ra : sRt a b = true) (rb : sRt c d = true) (w : World) :
    Calls Tryz.prog 7 #[spV a b, spV c d] w fun e w' => e = .returned (.tuple #[if k then spV 0 0 else spV g l, .int .i64 (if k then 150 else 0)]) ∧ Below w.heap.size w w' := by
  have hst := run_storef Tryz.prog
  have r1 := fun w => rright_any a b ha hb w
  have r2 := fun w => rright_any c d hc hd w
  rw [ra] at r1
  rw [rb] at r2
  have h1 := fun w => rgre_any a c ha hc w
  have h2 := fun w => rles_any b d hb hd w
  rw [← eg.out] at h1
  rw [← el.out] at h2
  clear eg el
  go_enter Tryz.func7, Tryz.ntmps7
  go_upto_region 3 with (first | (go_at_call_of 32 (Value.agg #[Value.float FloatKind.f64 a, Value.float FloatKind.f64 b]); refine (r1 _).mono ?_; rintro e v1 ⟨rfl, b1⟩; obtain ⟨ka0, ka1, _⟩ := (((Bx.new _ _ _ _).alloc _).alloc _).below b1; obtain ⟨kc0, kc1, _⟩ := ((Bx.new1 _ _ _ _ _).alloc _).below b1) | (go_at_call_of 32 (Value.agg #[Value.float FloatKind.f64 c, Value.float FloatKind.f64 d]); refine (r2 _).mono ?_; rintro e W ⟨rfl, b2⟩))
  have A0 := ((((Bx.new w (.float .f64 a) (.float .f64 b) 24).alloc (.cells #[.float .f64 c, .float .f64 d] 24)).alloc (.cells #[.float .f64 0, .float .f64 0] 24)).below b1).below b2
  have C0 := (((Bx.new1 w (.float .f64 c) (.float .f64 d) (.cells #[.float .f64 a, .float .f64 b] 24) 24).alloc (.cells #[.float .f64 0, .float .f64 0] 24)).below b1).below b2
  have R0 := ((Bx.new2 w (.float .f64 0) (.float .f64 0) (.cells #[.float .f64 a, .float .f64 b] 24) (.cells #[.float .f64 c, .float .f64 d] 24) 24).below b1).below b2
  have Z0 := (old3 b1).trans (b2.mono (old3 b1).size)
  clear b1 b2 ka0 ka1 kc0 kc1
  obtain ⟨p1, hp1⟩ : ∃ p, w.heap.size = p := ⟨_, rfl⟩
  obtain ⟨p2, hp2⟩ : ∃ p, w.heap.size + 1 = p := ⟨_, rfl⟩
  obtain ⟨p3, hp3⟩ : ∃ p, w.heap.size + 1 + 1 = p := ⟨_, rfl⟩
  have hp13 : w.heap.size ≤ p3 := by omega
  rw [hp3] at R0 ⊢
  rw [hp2] at C0 ⊢
  rw [hp1] at A0
  rw [show (Value.pointer (some ⟨w.heap.size, 0, none⟩)) = Value.pointer (some ⟨p1, 0, none⟩) by rw [hp1]]
  clear hp1 hp2 hp3
  obtain ⟨N, hN⟩ : ∃ n, W.heap.size = n := ⟨_, rfl⟩
  have l1 := A0.2.2.2.2
  have l2 := C0.2.2.2.2
  have l3 := R0.2.2.2.2
  rw [hN] at l1 l2 l3
  have m1 : ¬ p1 = N := by omega
  have m2 : ¬ p2 = N := by omega
  have m3 : ¬ p3 = N := by omega
  have m4 : ¬ N = p1 := by omega
  have m5 : ¬ N = p2 := by omega
  have m6 : ¬ N = p3 := by omega
  have A1 := A0
  have C1 := C0
  have R1 := R0
  obtain ⟨ka0, ka1, _⟩ := A0
  obtain ⟨kc0, kc1, _⟩ := C0
  obtain ⟨kr0, kr1, kr2, kr3, _⟩ := R0
  go_region_held3 (fun w' => w'.cell? ⟨p1, 0, none⟩ = some (.float .f64 a) ∧ w'.cell? ⟨p1, 1, none⟩ = some (.float .f64 b) ∧ w'.cell? ⟨p2, 0, none⟩ = some (.float .f64 c) ∧ w'.cell? ⟨p2, 1, none⟩ = some (.float .f64 d)) (go_keep)
    (first
      | (go_at_call 33; refine (h1 _).mono ?_; rintro e x2 ⟨rfl, rfl⟩)
      | (go_at_call 34; refine (h2 _).mono ?_; rintro e x2 ⟨rfl, rfl⟩))
  all_goals
    have S0 := (Bx.new W (.float .f64 g) (.float .f64 l) 24).below (Below.refl _ _).drew
    rw [hN] at S0
    have R2 := (R1.alloc (.cells #[.float .f64 g, .float .f64 l] 24)).below (Below.refl _ _).drew
    have Z1 : Below w.heap.size w (W.alloc (.cells #[.float .f64 g, .float .f64 l] 24)).drew := (Z0.alloc Z0.size _).drew
    clear ka0 ka1 kc0 kc1 kr0 kr1 kr2 kr3 A1 C1 R1
    generalize (W.alloc (.cells #[.float .f64 g, .float .f64 l] 24)).drew = V at *
    obtain ⟨ks0, ks1, _⟩ := S0
    obtain ⟨kr0, kr1, kr2, kr3, _⟩ := R2
    cases k
    · go_wp2
      exact bodyPost_ret (v := .tuple #[spV g l, .int .i64 0]) (by simp [results, Tryz.results7, go_sem, kr0, kr1]) rfl ⟨rfl, set2 Z1 hp13 _ _⟩
    · go_wp2
      exact bodyPost_ret (v := .tuple #[spV 0 0, .int .i64 150]) (by simp [results, Tryz.results7, go_sem, kr0, kr1]) rfl ⟨rfl, set2 Z1 hp13 _ _⟩
set_option maxHeartbeats 1600000 in
theorem rhas_any (l h x : Nat) (hl : l < 18446744073709551616) (hh : h < 18446744073709551616) (hx : x < 18446744073709551616) (w : World) :
    Calls Tryz.prog 14 #[spV l h, .float .f64 x] w fun e w' => e = .returned (.bool (sRt l h && finB x && leF l x && leF x h)) ∧ Below w.heap.size w w' := by
  have hb := fun w => rright_any l h hl hh w
  have cf := rfin5_any x hx
  have e1 : (FloatKind.f64.format.order l x == some .lt || FloatKind.f64.format.order l x == some .eq) = leF l x := rfl
  have e2 : (FloatKind.f64.format.order x h == some .lt || FloatKind.f64.format.order x h == some .eq) = leF x h := rfl
  cases q1 : sRt l h <;> rw [q1] at hb <;> cases q2 : finB x <;> rw [q2] at cf <;> cases q3 : leF l x <;> rw [q3] at e1 <;> cases q4 : leF x h <;> rw [q4] at e2 <;>
    (go_enter Tryz.func14, Tryz.ntmps14
     go_wp2_with (first | (go_at_call 32; refine (hb _).mono ?_; rintro e w1 ⟨rfl, b1⟩; obtain ⟨a0, a1, _⟩ := (Bx.new _ _ _ _).below b1; have z1 := old1 b1) | (go_at_call 41; refine (cf _).mono ?_; rintro e w' ⟨rfl, b2⟩; obtain ⟨a0, a1, _⟩ := ((Bx.new _ _ _ _).below b1).below b2; have z1 := z1.trans (b2.mono z1.size)))
     go_ret
     exact ⟨rfl, z1⟩)
set_option maxHeartbeats 1600000 in
theorem rin_any (a b c d : Nat) (ha : a < 18446744073709551616) (hb : b < 18446744073709551616) (hc : c < 18446744073709551616) (hd : d < 18446744073709551616) (w : World) :
    Calls Tryz.prog 12 #[spV a b, spV c d] w fun e w' => e = .returned (.bool (sRt a b && sRt c d && leF c a && leF b d)) ∧ Below w.heap.size w w' := by
  have r1 := fun w => rright_any a b ha hb w
  have r2 := fun w => rright_any c d hc hd w
  have e1 : (FloatKind.f64.format.order c a == some .lt || FloatKind.f64.format.order c a == some .eq) = leF c a := rfl
  have e2 : (FloatKind.f64.format.order b d == some .lt || FloatKind.f64.format.order b d == some .eq) = leF b d := rfl
  cases q1 : sRt a b <;> rw [q1] at r1 <;> cases q2 : sRt c d <;> rw [q2] at r2 <;> cases q3 : leF c a <;> rw [q3] at e1 <;> cases q4 : leF b d <;> rw [q4] at e2 <;>
    (go_enter Tryz.func12, Tryz.ntmps12
     go_wp2_with (first | (go_at_call_of 32 (Value.agg #[Value.float FloatKind.f64 a, Value.float FloatKind.f64 b]); refine (r1 _).mono ?_; rintro e v1 ⟨rfl, b1⟩; obtain ⟨ka0, ka1, _⟩ := ((Bx.new _ _ _ _).alloc _).below b1; obtain ⟨kc0, kc1, _⟩ := (Bx.new1 _ _ _ _ _).below b1; have z1 := old2 b1) | (go_at_call_of 32 (Value.agg #[Value.float FloatKind.f64 c, Value.float FloatKind.f64 d]); refine (r2 _).mono ?_; rintro e v2 ⟨rfl, b2⟩; obtain ⟨ka0, ka1, _⟩ := (((Bx.new _ _ _ _).alloc _).below b1).below b2; obtain ⟨kc0, kc1, _⟩ := ((Bx.new1 _ _ _ _ _).below b1).below b2; have z1 := z1.trans (b2.mono z1.size)))
     go_ret
     exact ⟨rfl, z1⟩)
end Go.Proofs.YtnjahgfcijckcaaGreatDoor
