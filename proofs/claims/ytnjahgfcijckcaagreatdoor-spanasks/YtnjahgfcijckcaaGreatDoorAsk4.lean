/- SpanAsks, whatever spans and dyad it is given: the walk. -/
import Derived.Test.YtnjahgfcijckcaaGreatDoorAsk3
import Derived.Test.YtnjahgfcijckcaaGreatDoorMb
namespace Go.Proofs.YtnjahgfcijckcaaGreatDoor
open Go.RowKit

theorem ls_lt {a b : Nat} (ha : a < 18446744073709551616) (hb : b < 18446744073709551616) : lsF a b < 18446744073709551616 := by unfold lsF; split <;> assumption
theorem gr_lt {a b : Nat} (ha : a < 18446744073709551616) (hb : b < 18446744073709551616) : grF a b < 18446744073709551616 := by unfold grF; split <;> assumption
/-- Both sides' Meet answer one and the same. -/
theorem meet_both (a b c d : Nat) (ha : a < 18446744073709551616) (hb : b < 18446744073709551616) (hc : c < 18446744073709551616) (hd : d < 18446744073709551616) :
    ∃ g l n, g < 18446744073709551616 ∧ l < 18446744073709551616 ∧ (∀ w, Calls Tryz.prog 6 #[spV a b, spV c d] w fun e w' => e = .returned (.tuple #[spV g l, .int .i64 n]) ∧ Below w.heap.size w w') ∧
      (∀ w, Calls Tryz.prog 7 #[spV a b, spV c d] w fun e w' => e = .returned (.tuple #[spV g l, .int .i64 n]) ∧ Below w.heap.size w w') := by
  cases hr : (sRt a b && sRt c d)
  · exact ⟨0, 0, 2, by omega, by omega, fun w => smeet_not a b c d hr w, fun w => rmeet_not a b c d ha hb hc hd hr w⟩
  · have h2 := hr
    rw [Bool.and_eq_true] at h2
    cases hk : (FloatKind.f64.format.order (grF a c) (lsF b d) == some .gt)
    · exact ⟨grF a c, lsF b d, 0, gr_lt ha hc, ls_lt hb hd, fun w => smeet_yes a b c d _ _ false rfl rfl hk ha hb hc hd hr w, fun w => rmeet_yes a b c d _ _ false rfl rfl hk ha hb hc hd h2.1 h2.2 w⟩
    · exact ⟨0, 0, 150, by omega, by omega, fun w => smeet_yes a b c d _ _ true rfl rfl hk ha hb hc hd hr w, fun w => rmeet_yes a b c d _ _ true rfl rfl hk ha hb hc hd h2.1 h2.2 w⟩
set_option maxRecDepth 100000 in
set_option maxHeartbeats 8000000 in
theorem asks_law (a b c d : Nat) (x : Dy) (ao : Option Addr) (cap : Nat) (w : World) (hT : TabW w) (ha : a < 18446744073709551616) (hb : b < 18446744073709551616) (hc : c < 18446744073709551616) (hd : d < 18446744073709551616) (hr : NS w ao cap x.mag) (hL : Lm x.mag) (hn : x.mag.length ≤ 17592186044416) :
    Calls Tryz.prog 3 #[spV a b, spV c d, .agg #[.bool x.neg, .slice ao x.mag.length cap, .int .i64 x.exp]] w fun e w' => e = .returned (.bool true) ∧ Below w.heap.size w w' := by
  have hst := run_storef Tryz.prog
  obtain ⟨g, l, n, hg, hl, m1, m2⟩ := meet_both a b c d ha hb hc hd
  have cI := fun w => sin_any a b c d w
  have rI := fun w => rin_any a b c d ha hb hc hd w
  have cH1 := fun w => shas_any a b c hc w
  have rH1 := fun w => rhas_any a b c ha hb hc w
  have cH2 := fun w => shas_any a b d hd w
  have rH2 := fun w => rhas_any a b d ha hb hd w
  have cO := fun o1 c1 W (t : TabW W) (h : LRow W o1 x.mag) => sholds_any a b x o1 c1 W t ha hb h hL
  have rO := fun W (h : NS W ao cap x.mag) => rholds_any a b x ao cap W ha hb h hL
  have hLD := fun W (h : NS W ao cap x.mag) => lentDyad_any x ao cap W h.1 h.2.1 hn
  have hKD := fun g0 W (h : NS W ao cap x.mag) (h2 : Lent W g0 x.mag) => keptDyad_any x ao cap g0 W h.1 h2 hn
  have hto := fun w => told_self g l n hg hl w
  rw [ho_hp ha hb] at rO
  generalize (sRt a b && sRt c d && leF c a && leF b d) = vI at *
  generalize (sRt a b && finB c && leF a c && leF c b) = vC at *
  generalize (sRt a b && finB d && leF a d && leF d b) = vD at *
  generalize hpB a b x = vH at *
  obtain ⟨xn, xs, ex⟩ := x
  simp only at *
  clear hL hn hg hl ha hb hc hd
  have A0 : Bx (((w.alloc (.cells #[.float .f64 a, .float .f64 b] 24)).alloc (.cells #[.float .f64 c, .float .f64 d] 24)).alloc (.cells #[.bool xn, .slice ao xs.length cap, .int .i64 ex] 27)) w.heap.size (.float .f64 a) (.float .f64 b) := ((Bx.new w _ _ _).alloc _).alloc _
  have B0 : Bx (((w.alloc (.cells #[.float .f64 a, .float .f64 b] 24)).alloc (.cells #[.float .f64 c, .float .f64 d] 24)).alloc (.cells #[.bool xn, .slice ao xs.length cap, .int .i64 ex] 27)) (w.heap.size + 1) (.float .f64 c) (.float .f64 d) := (Bx.new1 w _ _ _ _).alloc _
  have D0 : C3 (((w.alloc (.cells #[.float .f64 a, .float .f64 b] 24)).alloc (.cells #[.float .f64 c, .float .f64 d] 24)).alloc (.cells #[.bool xn, .slice ao xs.length cap, .int .i64 ex] 27)) (w.heap.size + 1 + 1) (.bool xn) (.slice ao xs.length cap) (.int .i64 ex) := C3.newAt (by go_simp) _ _ _ _
  have Z0 : Below w.heap.size w (((w.alloc (.cells #[.float .f64 a, .float .f64 b] 24)).alloc (.cells #[.float .f64 c, .float .f64 d] 24)).alloc (.cells #[.bool xn, .slice ao xs.length cap, .int .i64 ex] 27)) := (((Below.refl _ _).alloc (Nat.le_refl _) _).alloc (by simp) _).alloc (by simp; omega) _
  go_enter Tryz.func3, Tryz.ntmps3
  go_upto_region 3 with (go_at_call 5; refine (sawake _).mono ?_; rintro e V1 ⟨rfl, y1⟩)
  have A1 := A0.below y1
  have B1 := B0.below y1
  have D1 := D0.below y1
  have Z1 := Z0.trans (y1.mono Z0.size)
  clear A0 B0 D0 Z0 y1
  obtain ⟨pa, hpa⟩ : ∃ p, w.heap.size = p := ⟨_, rfl⟩
  obtain ⟨pb, hpb⟩ : ∃ p, w.heap.size + 1 = p := ⟨_, rfl⟩
  obtain ⟨pd, hpd⟩ : ∃ p, w.heap.size + 1 + 1 = p := ⟨_, rfl⟩
  rw [hpd] at D1 ⊢
  rw [hpb] at B1 ⊢
  rw [hpa] at A1
  rw [show (Value.pointer (some ⟨w.heap.size, 0, none⟩)) = Value.pointer (some ⟨pa, 0, none⟩) by rw [hpa]]
  clear hpa hpb hpd
  obtain ⟨ka0, ka1, _⟩ := id A1
  obtain ⟨kb0, kb1, _⟩ := id B1
  go_upto_region 4 with (go_at_call 6; refine (m1 _).mono ?_; rintro e V2 ⟨rfl, y2⟩)
  have A2 := (A1.below y2).alloc (.cells #[.float .f64 g, .float .f64 l] 24)
  have B2 := (B1.below y2).alloc (.cells #[.float .f64 g, .float .f64 l] 24)
  have D2 := (D1.below y2).alloc (.cells #[.float .f64 g, .float .f64 l] 24)
  have M2 := Bx.new V2 (.float .f64 g) (.float .f64 l) 24
  have Z2 : Below w.heap.size w (V2.alloc (.cells #[.float .f64 g, .float .f64 l] 24)) := by
    have z := Z1.trans (y2.mono Z1.size)
    exact z.alloc z.size _
  clear A1 B1 D1 Z1 y2 m1 ka0 ka1 kb0 kb1
  generalize V2.alloc (.cells #[.float .f64 g, .float .f64 l] 24) = W2 at *
  generalize V2.heap.size = pm at *
  obtain ⟨ka0, ka1, _⟩ := id A2
  obtain ⟨kb0, kb1, _⟩ := id B2
  go_upto_region 5 with (go_at_call 7; refine (m2 _).mono ?_; rintro e V3 ⟨rfl, y3⟩)
  have A3 := (A2.below y3).alloc (.cells #[.float .f64 g, .float .f64 l] 24)
  have B3 := (B2.below y3).alloc (.cells #[.float .f64 g, .float .f64 l] 24)
  have D3 := (D2.below y3).alloc (.cells #[.float .f64 g, .float .f64 l] 24)
  have M3 := (M2.below y3).alloc (.cells #[.float .f64 g, .float .f64 l] 24)
  have N3 := Bx.new V3 (.float .f64 g) (.float .f64 l) 24
  have Z3 : Below w.heap.size w (V3.alloc (.cells #[.float .f64 g, .float .f64 l] 24)) := by
    have z := Z2.trans (y3.mono Z2.size)
    exact z.alloc z.size _
  clear A2 B2 D2 M2 Z2 y3 m2 ka0 ka1 kb0 kb1
  generalize V3.alloc (.cells #[.float .f64 g, .float .f64 l] 24) = W3 at *
  generalize V3.heap.size = pn at *
  have R3 := hr.below Z3
  obtain ⟨kd0, kd1, kd2, _⟩ := id D3
  go_upto_region 6 with (go_at_call 8; refine (hLD _ R3).mono ?_; rintro e V4 ⟨q, rfl, l4, _, y4⟩)
  have A4 := (A3.below y4).alloc (.cells #[.bool xn, .slice (some ⟨q, 0, none⟩) xs.length (xs.length + 12), .int .i64 ex] 27)
  have B4 := (B3.below y4).alloc (.cells #[.bool xn, .slice (some ⟨q, 0, none⟩) xs.length (xs.length + 12), .int .i64 ex] 27)
  have D4 := (D3.below y4).alloc (.cells #[.bool xn, .slice (some ⟨q, 0, none⟩) xs.length (xs.length + 12), .int .i64 ex] 27)
  have M4 := (M3.below y4).alloc (.cells #[.bool xn, .slice (some ⟨q, 0, none⟩) xs.length (xs.length + 12), .int .i64 ex] 27)
  have N4 := (N3.below y4).alloc (.cells #[.bool xn, .slice (some ⟨q, 0, none⟩) xs.length (xs.length + 12), .int .i64 ex] 27)
  have I4 := C3.new V4 (.bool xn) (.slice (some ⟨q, 0, none⟩) xs.length (xs.length + 12)) (.int .i64 ex) 27
  have L4 := l4.alloc (.cells #[.bool xn, .slice (some ⟨q, 0, none⟩) xs.length (xs.length + 12), .int .i64 ex] 27)
  have Z4 : Below w.heap.size w (V4.alloc (.cells #[.bool xn, .slice (some ⟨q, 0, none⟩) xs.length (xs.length + 12), .int .i64 ex] 27)) := by
    have z := Z3.trans (y4.mono Z3.size)
    exact z.alloc z.size _
  clear A3 B3 D3 M3 N3 Z3 y4 l4 hLD kd0 kd1 kd2 R3
  generalize V4.alloc (.cells #[.bool xn, .slice (some ⟨q, 0, none⟩) xs.length (xs.length + 12), .int .i64 ex] 27) = W4 at *
  generalize V4.heap.size = pi at *
  have T4 := tabW_below hT Z4
  obtain ⟨ka0, ka1, _⟩ := id A4
  obtain ⟨ki0, ki1, ki2, _⟩ := id I4
  have cO4 := cO _ (xs.length + 12) _ T4 L4.lrow
  go_upto_region 7 with (go_at_call 9; refine cO4.mono ?_; rintro e V5 ⟨rfl, y5⟩)
  have A5 := A4.below y5
  have B5 := B4.below y5
  have D5 := D4.below y5
  have M5 := M4.below y5
  have N5 := N4.below y5
  have I5 := I4.below y5
  have L5 := L4.below y5
  have Z5 := Z4.trans (y5.mono Z4.size)
  have R5 := hr.below Z5
  clear A4 B4 D4 M4 N4 I4 L4 Z4 y5 T4 cO cO4 ka0 ka1 ki0 ki1 ki2 hst hr hT
  obtain ⟨ka0, ka1, _⟩ := id A5
  obtain ⟨kb0, kb1, _⟩ := id B5
  obtain ⟨kd0, kd1, kd2, _⟩ := id D5
  obtain ⟨km0, km1, _⟩ := id M5
  obtain ⟨kn0, kn1, _⟩ := id N5
  obtain ⟨ki0, ki1, ki2, _⟩ := id I5
  have hne : Nonempty (LQ V5) := LQ.any _
  have a0 : ∀ v : LQ V5, v.val.cell? ⟨pa, 0, none⟩ = some (.float .f64 a) := fun v => v.cell ka0
  have a1 : ∀ v : LQ V5, v.val.cell? ⟨pa, 1, none⟩ = some (.float .f64 b) := fun v => v.cell ka1
  have b0 : ∀ v : LQ V5, v.val.cell? ⟨pb, 0, none⟩ = some (.float .f64 c) := fun v => v.cell kb0
  have b1 : ∀ v : LQ V5, v.val.cell? ⟨pb, 1, none⟩ = some (.float .f64 d) := fun v => v.cell kb1
  have d0 : ∀ v : LQ V5, v.val.cell? ⟨pd, 0, none⟩ = some (.bool xn) := fun v => v.cell kd0
  have d1 : ∀ v : LQ V5, v.val.cell? ⟨pd, 1, none⟩ = some (.slice ao xs.length cap) := fun v => v.cell kd1
  have d2 : ∀ v : LQ V5, v.val.cell? ⟨pd, 2, none⟩ = some (.int .i64 ex) := fun v => v.cell kd2
  have m0 : ∀ v : LQ V5, v.val.cell? ⟨pm, 0, none⟩ = some (.float .f64 g) := fun v => v.cell km0
  have m1 : ∀ v : LQ V5, v.val.cell? ⟨pm, 1, none⟩ = some (.float .f64 l) := fun v => v.cell km1
  have n0 : ∀ v : LQ V5, v.val.cell? ⟨pn, 0, none⟩ = some (.float .f64 g) := fun v => v.cell kn0
  have n1 : ∀ v : LQ V5, v.val.cell? ⟨pn, 1, none⟩ = some (.float .f64 l) := fun v => v.cell kn1
  have i0 : ∀ v : LQ V5, v.val.cell? ⟨pi, 0, none⟩ = some (.bool xn) := fun v => v.cell ki0
  have i1 : ∀ v : LQ V5, v.val.cell? ⟨pi, 1, none⟩ = some (.slice (some ⟨q, 0, none⟩) xs.length (xs.length + 12)) := fun v => v.cell ki1
  have i2 : ∀ v : LQ V5, v.val.cell? ⟨pi, 2, none⟩ = some (.int .i64 ex) := fun v => v.cell ki2
  have rr : ∀ v : LQ V5, NS v.val ao cap xs := fun v => R5.below v.below
  have ll : ∀ v : LQ V5, Lent v.val q xs := fun v => L5.below v.below
  refine region_lq (by kernel_rfl) (by kernel_rfl) ?_
  repeat (quiet_step (first
    | (go_at_call 10; exact lq_of (hto _))
    | (go_at_call 11; exact lq_of (cI _))
    | (go_at_call 12; exact lq_of (rI _))
    | (go_at_call_of 13 (Value.float FloatKind.f64 c); exact lq_of (cH1 _))
    | (go_at_call_of 14 (Value.float FloatKind.f64 c); exact lq_of (rH1 _))
    | (go_at_call_of 13 (Value.float FloatKind.f64 d); exact lq_of (cH2 _))
    | (go_at_call_of 14 (Value.float FloatKind.f64 d); exact lq_of (rH2 _))
    | (go_at_call 15; exact lq_of (rO _ (rr _)))
    | (go_at_call 16; exact lq_of (hKD q _ (rr _) (ll _)))))
  refine wpQuiet_nil ?_
  intro w' hw'
  obtain ⟨v, rfl⟩ := hw'
  have z1 := v.below
  go_wp2
  go_ret
  exact ⟨rfl, Z5.trans (z1.mono Z5.size)⟩
end Go.Proofs.YtnjahgfcijckcaaGreatDoor
