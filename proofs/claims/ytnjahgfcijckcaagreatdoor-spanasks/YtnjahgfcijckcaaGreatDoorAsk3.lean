/- The program's against and Holds; that they answer as the document's. -/
import Derived.Test.YtnjahgfcijckcaaGreatDoorAsk2
import Derived.Test.YtnjahgfcijckcaaGreatDoorSk
namespace Go.Proofs.YtnjahgfcijckcaaGreatDoor
open Go.RowKit

/-- Which side of a float is an exact number on? -/
def agI (d : Dy) (x : Nat) : Int := if finB x then (cmpD d (ofD x).1).1 else if sgn x then 1 else -1
theorem inf_tests {x : Nat} (hx : x < 18446744073709551616) (nx : nanB x = false) : infB x 1 = (!finB x && !sgn x) ∧ infB x (-1) = (!finB x && sgn x) := by
  have hr : rung x ≤ 9218868437227405312 := by unfold nanB at nx; simpa using nx
  rw [inf_plus hx nx, inf_minus hx nx]
  unfold finB place
  constructor <;> rw [Bool.eq_iff_iff] <;> cases sgn x <;> simp <;> omega
set_option maxHeartbeats 2000000 in
theorem against_any (d : Dy) (x : Nat) (ao : Option Addr) (cap : Nat) (w : World) (hT : TabW w) (hx : x < 18446744073709551616) (nx : nanB x = false) (hr : LRow w ao d.mag) (hL : Lm d.mag) :
    Calls Tryz.prog 38 #[.agg #[.bool d.neg, .slice ao d.mag.length cap, .int .i64 d.exp], .float .f64 x] w fun e w' => e = .returned (.int .i64 (agI d x)) ∧ Below w.heap.size w w' := by
  obtain ⟨t1, t2⟩ := inf_tests hx nx
  have i1 := fun W => isinf_any x 1 (Or.inl rfl) W
  have i2 := fun W => isinf_any x (-1) (Or.inr rfl) W
  rw [t1] at i1
  rw [t2] at i2
  have HE : Hid (agI d x = if finB x then (cmpD d (ofD x).1).1 else if sgn x then 1 else -1) := (show _ = _ from rfl)
  cases fx : finB x
  · rw [fx] at i1 i2 HE
    cases sx : sgn x
    · rw [sx] at i1 i2 HE
      have e : agI d x = -1 := HE.out
      rw [e]
      clear e HE
      go_enter Tryz.func38, Tryz.ntmps38
      go_wp2_with (first | (go_at_call_of 58 (Value.int IntKind.i64 1); refine (i1 _).mono ?_; rintro e w' ⟨rfl, rfl⟩) | (go_at_call 58; refine (i2 _).mono ?_; rintro e w' ⟨rfl, rfl⟩))
      go_ret
      exact ⟨rfl, (Below.refl _ _).alloc (Nat.le_refl _) _⟩
    · rw [sx] at i1 i2 HE
      have e : agI d x = 1 := HE.out
      rw [e]
      clear e HE
      go_enter Tryz.func38, Tryz.ntmps38
      go_wp2_with (first | (go_at_call_of 58 (Value.int IntKind.i64 1); refine (i1 _).mono ?_; rintro e w' ⟨rfl, rfl⟩) | (go_at_call 58; refine (i2 _).mono ?_; rintro e w' ⟨rfl, rfl⟩))
      go_ret
      exact ⟨rfl, (Below.refl _ _).alloc (Nat.le_refl _) _⟩
  · rw [fx] at i1 i2 HE
    have e : agI d x = (cmpD d (ofD x).1).1 := HE.out
    rw [e]
    obtain ⟨_, _, oL, _⟩ := fq_qd fx (K := 64462) rfl
    have cO := fun W h => Of_any x hx W h
    have cC := fun o1 c1 W (h1 : LRow W ao d.mag) (h2 : LRow W o1 (ofD x).1.mag) => cmp_all d (ofD x).1 ao o1 cap c1 W h1 h2 hL oL
    clear e HE oL hL
    generalize (cmpD d (ofD x).1) = rr at *
    obtain ⟨r0, r1⟩ := rr
    generalize ofD x = O at *
    obtain ⟨⟨on, om, oe⟩, oz⟩ := O
    obtain ⟨n, xs, ex⟩ := d
    simp only at *
    have hal : ∀ o, Below w.heap.size w (w.alloc o) := fun o => (Below.refl _ _).alloc (Nat.le_refl _) o
    go_enter Tryz.func38, Tryz.ntmps38
    go_wp2_with (first
      | (go_at_call_of 58 (Value.int IntKind.i64 1); refine (i1 _).mono ?_; rintro e w' ⟨rfl, rfl⟩)
      | (go_at_call 58; refine (i2 _).mono ?_; rintro e w' ⟨rfl, rfl⟩)
      | (go_at_call 59; refine (cO _ (tabW_below hT (hal _))).mono ?_; rintro e v1 ⟨o1, c1, rfl, l1, f1, y1⟩; obtain ⟨kc0, kc1, kc2, _⟩ := ((C3.new _ _ _ _ _).below y1); have z1 := old1 y1; obtain ⟨kd0, kd1, kd2, _⟩ := ((C3.new _ _ _ _ _).below y1).alloc (.cells #[.bool on, .slice o1 om.length c1, .int .i64 oe] 27))
      | (go_at_call 60; refine (cC o1 c1 _ (hr.below (z1.alloc z1.size _)) (l1.below ((Below.refl _ _).alloc (Nat.le_refl _) _))).mono ?_; rintro e v2 ⟨rfl, y2⟩; have z2 := (z1.alloc z1.size (.cells #[.bool on, .slice o1 om.length c1, .int .i64 oe] 27)); have z3 := z2.trans (y2.mono z2.size)))
    go_ret
    exact ⟨rfl, z3⟩
def hpB (l u : Nat) (d : Dy) : Bool := sRt l u && rightB d && decide (0 ≤ agI d l) && decide (agI d u ≤ 0)
theorem sRt_num {l u : Nat} (hl : l < 18446744073709551616) (hu : u < 18446744073709551616) (h : sRt l u = true) : nanB l = false ∧ nanB u = false := by
  constructor
  · cases hn : nanB l
    · rfl
    · rw [sRt_nan hl hu (Or.inl hn)] at h; cases h
  · cases hn : nanB u
    · rfl
    · rw [sRt_nan hl hu (Or.inr hn)] at h; cases h
set_option maxRecDepth 100000 in
set_option maxHeartbeats 4000000 in
theorem sholds_any (l u : Nat) (d : Dy) (ao : Option Addr) (cap : Nat) (w : World) (hT : TabW w) (hl : l < 18446744073709551616) (hu : u < 18446744073709551616) (hr : LRow w ao d.mag) (hL : Lm d.mag) :
    Calls Tryz.prog 9 #[spV l u, .agg #[.bool d.neg, .slice ao d.mag.length cap, .int .i64 d.exp]] w fun e w' => e = .returned (.bool (hpB l u d)) ∧ Below w.heap.size w w' := by
  have r1 := fun W => sright_any l u W
  have r2 := fun W (h : LRow W ao d.mag) => right_any d ao cap W h hL
  have g1 := fun (h : nanB l = false) W (t : TabW W) (g : LRow W ao d.mag) => against_any d l ao cap W t hl h g hL
  have g2 := fun (h : nanB u = false) W (t : TabW W) (g : LRow W ao d.mag) => against_any d u ao cap W t hu h g hL
  have nn := fun h => sRt_num (l := l) (u := u) hl hu h
  have HB : Hid (hpB l u d = (sRt l u && rightB d && decide (0 ≤ agI d l) && decide (agI d u ≤ 0))) := (show _ = _ from rfl)
  generalize hpB l u d = T at *
  generalize agI d l = a1 at *
  generalize agI d u = a2 at *
  generalize sRt l u = s at *
  generalize rightB d = r at *
  obtain ⟨n, xs, ex⟩ := d
  simp only at *
  have P0 : Bx ((w.alloc (.cells #[.float .f64 l, .float .f64 u] 24)).alloc (.cells #[.bool n, .slice ao xs.length cap, .int .i64 ex] 27)) w.heap.size (.float .f64 l) (.float .f64 u) := (Bx.new w _ _ _).alloc _
  have Q0 : C3 ((w.alloc (.cells #[.float .f64 l, .float .f64 u] 24)).alloc (.cells #[.bool n, .slice ao xs.length cap, .int .i64 ex] 27)) (w.heap.size + 1) (.bool n) (.slice ao xs.length cap) (.int .i64 ex) := C3.newAt (by go_simp) _ _ _ _
  have Z0 : Below w.heap.size w ((w.alloc (.cells #[.float .f64 l, .float .f64 u] 24)).alloc (.cells #[.bool n, .slice ao xs.length cap, .int .i64 ex] 27)) := ((Below.refl _ _).alloc (Nat.le_refl _) _).alloc (by simp) _
  have R0 := hr.below Z0
  have T0 := tabW_below hT Z0
  go_enter Tryz.func9, Tryz.ntmps9
  go_upto_region 1 with fail
  generalize (w.alloc (.cells #[.float .f64 l, .float .f64 u] 24)).alloc (.cells #[.bool n, .slice ao xs.length cap, .int .i64 ex] 27) = W at *
  obtain ⟨p, hp⟩ : ∃ p, w.heap.size = p := ⟨_, rfl⟩
  obtain ⟨q, hq⟩ : ∃ q, w.heap.size + 1 = q := ⟨_, rfl⟩
  rw [hp] at P0
  rw [hq] at Q0 ⊢
  rw [show (Value.pointer (some ⟨w.heap.size, 0, none⟩)) = Value.pointer (some ⟨p, 0, none⟩) by rw [hp]]
  clear hp hq hr hL
  obtain ⟨ka0, ka1, _⟩ := id P0
  obtain ⟨kc0, kc1, kc2, _⟩ := id Q0
  cases s
  · clear g1 g2 r2
    go_wp2_with (first | (go_at_call 36; refine (r1 _).mono ?_; rintro e v1 ⟨rfl, y1⟩))
    go_ret
    exact ⟨retB (by rw [HB.out]; rfl), Z0.trans (y1.mono Z0.size)⟩
  · obtain ⟨nl, nu⟩ := nn rfl
    have g1' := g1 nl
    have g2' := g2 nu
    clear g1 g2 nn
    cases r
    · go_wp2_with (first | (go_at_call 36; refine (r1 _).mono ?_; rintro e v1 ⟨rfl, y1⟩; obtain ⟨ka0, ka1, _⟩ := P0.below y1; obtain ⟨kc0, kc1, kc2, _⟩ := Q0.below y1) | (go_at_call 37; refine (r2 _ (R0.below y1)).mono ?_; rintro e v2 ⟨rfl, y2⟩; have z2 := y1.trans (y2.mono y1.size)))
      go_ret
      exact ⟨retB (by rw [HB.out]; rfl), Z0.trans (z2.mono Z0.size)⟩
    · by_cases c1 : 0 ≤ a1
      · by_cases c2 : a2 ≤ 0
        · go_wp2_with (first
            | (go_at_call 36; refine (r1 _).mono ?_; rintro e v1 ⟨rfl, y1⟩; obtain ⟨ka0, ka1, _⟩ := P0.below y1; obtain ⟨kc0, kc1, kc2, _⟩ := Q0.below y1)
            | (go_at_call 37; refine (r2 _ (R0.below y1)).mono ?_; rintro e v2 ⟨rfl, y2⟩; have z2 := y1.trans (y2.mono y1.size); obtain ⟨ka0, ka1, _⟩ := P0.below z2; obtain ⟨kc0, kc1, kc2, _⟩ := Q0.below z2)
            | (go_at_call_of 38 (Value.float FloatKind.f64 u); refine (g2' _ (tabW_below T0 z3) (R0.below z3)).mono ?_; rintro e v4 ⟨rfl, y4⟩; have z4 := z3.trans (y4.mono z3.size))
            | (go_at_call_of 38 (Value.float FloatKind.f64 l); refine (g1' _ (tabW_below T0 z2) (R0.below z2)).mono ?_; rintro e v3 ⟨rfl, y3⟩; have z3 := z2.trans (y3.mono z2.size); obtain ⟨ka0, ka1, _⟩ := P0.below z3; obtain ⟨kc0, kc1, kc2, _⟩ := Q0.below z3))
          go_ret
          exact ⟨retB (by rw [HB.out, decide_eq_true c1, decide_eq_true c2]; rfl), Z0.trans (z4.mono Z0.size)⟩
        · go_wp2_with (first
            | (go_at_call 36; refine (r1 _).mono ?_; rintro e v1 ⟨rfl, y1⟩; obtain ⟨ka0, ka1, _⟩ := P0.below y1; obtain ⟨kc0, kc1, kc2, _⟩ := Q0.below y1)
            | (go_at_call 37; refine (r2 _ (R0.below y1)).mono ?_; rintro e v2 ⟨rfl, y2⟩; have z2 := y1.trans (y2.mono y1.size); obtain ⟨ka0, ka1, _⟩ := P0.below z2; obtain ⟨kc0, kc1, kc2, _⟩ := Q0.below z2)
            | (go_at_call_of 38 (Value.float FloatKind.f64 u); refine (g2' _ (tabW_below T0 z3) (R0.below z3)).mono ?_; rintro e v4 ⟨rfl, y4⟩; have z4 := z3.trans (y4.mono z3.size))
            | (go_at_call_of 38 (Value.float FloatKind.f64 l); refine (g1' _ (tabW_below T0 z2) (R0.below z2)).mono ?_; rintro e v3 ⟨rfl, y3⟩; have z3 := z2.trans (y3.mono z2.size); obtain ⟨ka0, ka1, _⟩ := P0.below z3; obtain ⟨kc0, kc1, kc2, _⟩ := Q0.below z3))
          go_ret
          exact ⟨retB (by rw [HB.out, decide_eq_true c1, decide_eq_false (show ¬ a2 ≤ 0 by omega)]; rfl), Z0.trans (z4.mono Z0.size)⟩
      · go_wp2_with (first
          | (go_at_call 36; refine (r1 _).mono ?_; rintro e v1 ⟨rfl, y1⟩; obtain ⟨ka0, ka1, _⟩ := P0.below y1; obtain ⟨kc0, kc1, kc2, _⟩ := Q0.below y1)
          | (go_at_call 37; refine (r2 _ (R0.below y1)).mono ?_; rintro e v2 ⟨rfl, y2⟩; have z2 := y1.trans (y2.mono y1.size); obtain ⟨ka0, ka1, _⟩ := P0.below z2; obtain ⟨kc0, kc1, kc2, _⟩ := Q0.below z2)
          | (go_at_call_of 38 (Value.float FloatKind.f64 u); refine (g2' _ (tabW_below T0 z3) (R0.below z3)).mono ?_; rintro e v4 ⟨rfl, y4⟩; have z4 := z3.trans (y4.mono z3.size))
          | (go_at_call_of 38 (Value.float FloatKind.f64 l); refine (g1' _ (tabW_below T0 z2) (R0.below z2)).mono ?_; rintro e v3 ⟨rfl, y3⟩; have z3 := z2.trans (y3.mono z2.size); obtain ⟨ka0, ka1, _⟩ := P0.below z3; obtain ⟨kc0, kc1, kc2, _⟩ := Q0.below z3))
        go_ret
        exact ⟨retB (by rw [HB.out, decide_eq_false (show ¬ 0 ≤ a1 by omega)]; rfl), Z0.trans (z3.mono Z0.size)⟩
theorem sg_iff (x : Int) : (0 ≤ sgI x ↔ 0 ≤ x) ∧ (sgI x ≤ 0 ↔ x ≤ 0) ∧ (0 < sgI x ↔ 0 < x) := by
  unfold sgI
  refine ⟨?_, ?_, ?_⟩ <;> (repeat' split) <;> omega
theorem fl5_qd {x : Nat} (hf : finB x = true) : qd (fl5 x) = qd (ofD x).1 := by
  unfold ofD
  rw [if_neg (by rw [hf]; simp)]
  by_cases h0 : spF x = 0
  · rw [if_pos h0]
    have z1 : sv (fl5 x) = 0 := by
      unfold fl5 sv
      simp only [vl_lo, h0]
      cases sgn x <;> rfl
    unfold qd
    rw [z1, show sv dy0 = 0 from rfl, Int.zero_mul, Int.zero_mul]
  · rw [if_neg h0]
    unfold fl5 qd sv
    simp only [vl_lo]
    rw [show vl [spF x] = spF x by simp [vl]]
theorem ho_hp {l u : Nat} {d : Dy} (hl : l < 18446744073709551616) (hu : u < 18446744073709551616) : hoB l u d = hpB l u d := by
  unfold hoB hpB
  cases hs : sRt l u
  · rfl
  · cases hr : rightB d
    · rfl
    · obtain ⟨nl, nu⟩ := sRt_num hl hu hs
      have hd := sRt_doc hl hu nl nu
      rw [hs] at hd
      have hd2 := hd.symm
      simp only [Bool.and_eq_true] at hd2
      have hd3 := hd2.2
      have qx : qd ⟨d.neg, lo (vl d.mag), d.exp⟩ = qd d := by unfold qd sv; simp only [vl_lo]
      have low : (!finB l || decide (¬ 0 < sgI (qd (fl5 l) - qd ⟨d.neg, lo (vl d.mag), d.exp⟩))) = decide (0 ≤ agI d l) := by
        unfold agI
        cases fl : finB l
        · have h1 : place l < 0 := by have := hd3.1; rw [fl] at this; simpa using this
          have h2 : sgn l = true := by unfold place at h1; cases hg : sgn l <;> rw [hg] at h1 <;> simp at h1 ⊢ <;> omega
          rw [h2]; rfl
        · obtain ⟨_, o2, _, _⟩ := fq_qd fl (K := 64462) rfl
          rw [fl5_qd fl, qx]
          unfold cmpD
          rw [hr, o2]
          simp only [Bool.and_self, if_true, Bool.not_true, Bool.false_or]
          rw [decide_eq_decide, (sg_iff _).2.2, (sg_iff _).1]
          omega
      have high : (!finB u || decide (sgI (qd ⟨d.neg, lo (vl d.mag), d.exp⟩ - qd (fl5 u)) ≤ 0)) = decide (agI d u ≤ 0) := by
        unfold agI
        cases fu : finB u
        · have h1 : 0 < place u := by have := hd3.2; rw [fu] at this; simpa using this
          have h2 : sgn u = false := by unfold place at h1; cases hg : sgn u <;> rw [hg] at h1 <;> simp at h1 ⊢ <;> omega
          rw [h2]; rfl
        · obtain ⟨_, o2, _, _⟩ := fq_qd fu (K := 64462) rfl
          rw [fl5_qd fu, qx]
          unfold cmpD
          rw [hr, o2]
          simp only [Bool.and_self, if_true, Bool.not_true, Bool.false_or]
      unfold hnB
      rw [low, high]
      simp
end Go.Proofs.YtnjahgfcijckcaaGreatDoor
