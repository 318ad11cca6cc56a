/- What span's Meet and Hull (of two) answer of right spans, call by call. -/
import Derived.Test.YtfipmopmpacdaaaGreatDoorZK
import Derived.Test.YtfipmopmpacdaaaGreatDoorY9
import Derived.Test.YtfipmopmpacdaaaGreatDoorZj
namespace Go.Proofs.YtfipmopmpacdaaaGreatDoor
open Go.RowKit
abbrev TR (f : Nat) (x : Nat) (m : Int) (r : Nat) : Prop := ∀ w, TabW w → Calls Tryz.prog f #[.float .f64 x, .int .i8 m] w fun e w' => e = .returned (.float .f64 r) ∧ Below w.heap.size w w'
def sqB (m : Int) (x : Nat) : Nat := if someB x && !sgn x then stepF (tQ x) (tS x) m else (FloatKind.f64.format.sqrt x).getD 0
theorem sqrtS_ok {x : Nat} (hx : x < 18446744073709551616) (nx : nanB x = false) (h : sgn x = false ∨ rung x = 0) : (FloatKind.f64.format.sqrt x).isSome = true := by
 show (((Ieee.double.read x).root 54).map Ieee.double.write).isSome = true
 rw [read_nn hx nx]
 cases fx : finB x
 ·simp only [Bool.false_eq_true, if_false, Ieee.Datum.root]
  rcases h with h | h
  ·rw [h]; rfl
  ·exfalso; unfold finB at fx; simp at fx; omega
 ·simp only [if_true, Ieee.Datum.root]
  by_cases m0 : mg (rung x) = 0
  ·rw [if_pos m0]; rfl
  ·rw [if_neg m0]
   rcases h with h | h
   ·rw [h]; rfl
   ·exact absurd (mg_nil.2 h) m0
theorem rmul_P (m : Int) {x y : Nat} (hx : x < 18446744073709551616) (hy : y < 18446744073709551616) (h : (floatBits .mul .f64 x y).isSome = true) : mulB m x y < 18446744073709551616 ∧ TB 56 x y m (mulB m x y) := by
 obtain ⟨v, hv⟩ := Option.isSome_iff_exists.1 h
 unfold mulB
 cases hf : (someB x && someB y)
 ·simp only [Bool.false_eq_true, if_false]
  refine ⟨?_, fun w _ => (rmul_sp x y m hx hy hf w).mono ?_⟩
  ·rw [hv]
   exact (op_word (op := .mul) (Or.inr (Or.inr (Or.inl rfl))) hv).1
  ·rintro e w' ⟨r, rfl, hN, hb⟩; exact ⟨by rw [nr_at h hN], hb⟩
 ·have sx : someB x = true := by revert hf; cases someB x <;> simp
  have sy : someB y = true := by revert hf; cases someB x <;> simp
  simp only [if_true]
  have hq : floatBits .mul .f64 x y = some (pQ x y) := by unfold pQ; rw [hv]; rfl
  exact ⟨stepF_lt _ _ (op_word (op := .mul) (Or.inr (Or.inr (Or.inl rfl))) hq).1, fun w hT => (rmul_any x y m hx hy sx sy w hT).2⟩
theorem rdiv_P (m : Int) {x y : Nat} (hx : x < 18446744073709551616) (hy : y < 18446744073709551616) (h : (floatBits .quo .f64 x y).isSome = true) : divB m x y < 18446744073709551616 ∧ TB 58 x y m (divB m x y) := by
 obtain ⟨v, hv⟩ := Option.isSome_iff_exists.1 h
 unfold divB
 cases hf : (someB x && someB y)
 ·simp only [Bool.false_eq_true, if_false]
  refine ⟨?_, fun w _ => (rdiv_sp x y m hx hy hf w).mono ?_⟩
  ·rw [hv]
   exact (op_word (op := .quo) (Or.inr (Or.inr (Or.inr rfl))) hv).1
  ·rintro e w' ⟨r, rfl, hN, hb⟩; exact ⟨by rw [nr_at h hN], hb⟩
 ·have sx : someB x = true := by revert hf; cases someB x <;> simp
  have sy : someB y = true := by revert hf; cases someB x <;> simp
  simp only [if_true]
  have hq : floatBits .quo .f64 x y = some (kQ x y) := by unfold kQ; rw [hv]; rfl
  exact ⟨stepF_lt _ _ (op_word (op := .quo) (Or.inr (Or.inr (Or.inr rfl))) hq).1, fun w hT => (rdiv_any x y m hx hy sx sy w hT).2⟩
theorem rsqrt_P (m : Int) {x : Nat} (hx : x < 18446744073709551616) (h : (FloatKind.f64.format.sqrt x).isSome = true) : sqB m x < 18446744073709551616 ∧ TR 69 x m (sqB m x) := by
 obtain ⟨v, hv⟩ := Option.isSome_iff_exists.1 h
 unfold sqB
 cases hs : (someB x && !sgn x)
 ·simp only [Bool.false_eq_true, if_false]
  refine ⟨?_, fun w _ => (rsqrt_sp x m hx hs w).mono ?_⟩
  ·rw [hv]
   exact (sqrt_word hv).1
  ·rintro e w' ⟨r, rfl, hN, hb⟩; exact ⟨by rw [nr_at h hN], hb⟩
 ·have sx : someB x = true := by revert hs; cases someB x <;> simp
  have sg : sgn x = false := by revert hs; cases someB x <;> simp
  simp only [if_true]
  exact ⟨stepF_lt _ _ (sqrt_word (root_some hx sx sg)).1, fun w hT => rsqrt_any x m hx sx sg w hT⟩
set_option maxHeartbeats 4000000 in
theorem sprod_P (m : Int) {x y : Nat} (hx : x < 18446744073709551616) (hy : y < 18446744073709551616) (nx : nanB x = false) (ny : nanB y = false) : tB m x y < 18446744073709551616 ∧ TB 85 x y m (tB m x y) := by
  have cx := sfin_any x hx
  have cy := sfin_any y hy
  have z1 := zero_eq hx
  have z2 := zero_eq hy
  have hM := fun h => rmul_P m hx hy (mulS_ok hx hy nx ny h)
  unfold tB
  cases q1 : (rung x == 0) <;> rw [q1] at z1 hM <;> cases q2 : (rung y == 0) <;> rw [q2] at z2 hM <;> cases fx : finB x <;> rw [fx] at cx hM <;> cases fy : finB y <;> rw [fy] at cy hM <;>
    first
    | (obtain ⟨m0, m1⟩ := hM rfl
       simp only [Bool.and_false, Bool.and_true, Bool.or_self, Bool.and_self, Bool.not_true, Bool.not_false, Bool.false_eq_true, if_false]
       refine ⟨m0, fun w hT => ?_⟩
       · go_enter Tryz.func85, Tryz.ntmps85
         go_wp2_with (first
           | (go_at_call_of 70 (Value.float FloatKind.f64 x); refine (cx _).mono ?_; rintro e w' ⟨rfl, rfl⟩)
           | (go_at_call_of 70 (Value.float FloatKind.f64 y); refine (cy _).mono ?_; rintro e w' ⟨rfl, rfl⟩)
           | (go_at_call 56; refine (m1 _ hT).mono ?_; rintro e w1 ⟨rfl, b1⟩))
         go_ret
         exact ⟨rfl, b1⟩)
    | (clear hM
       simp only [Bool.and_false, Bool.and_true, Bool.or_false, Bool.or_self, Bool.and_self, Bool.or_true, Bool.not_true, Bool.not_false, if_true]
       refine ⟨by omega, fun w _ => ?_⟩
       · go_enter Tryz.func85, Tryz.ntmps85
         go_wp2_with (first
           | (go_at_call_of 70 (Value.float FloatKind.f64 x); refine (cx _).mono ?_; rintro e w' ⟨rfl, rfl⟩)
           | (go_at_call_of 70 (Value.float FloatKind.f64 y); refine (cy _).mono ?_; rintro e w' ⟨rfl, rfl⟩))
         go_ret
         exact ⟨rfl, Below.refl _ _⟩)
set_option maxHeartbeats 4000000 in
theorem squot_P (m : Int) {x y : Nat} (hx : x < 18446744073709551616) (hy : y < 18446744073709551616) (nx : nanB x = false) (ny : nanB y = false) (y0 : rung y ≠ 0) : oB m x y < 18446744073709551616 ∧ TB 94 x y m (oB m x y) := by
  have cx := sfin_any x hx
  have cy := sfin_any y hy
  have hM := fun h => rdiv_P m hx hy (divS_ok hx hy nx ny h y0)
  unfold oB
  clear y0
  cases fx : finB x <;> rw [fx] at cx hM <;> cases fy : finB y <;> rw [fy] at cy hM <;>
    first
    | (obtain ⟨m0, m1⟩ := hM rfl
       simp only [Bool.and_false, Bool.and_true, Bool.and_self, Bool.not_true, Bool.not_false, Bool.false_eq_true, if_false]
       refine ⟨m0, fun w hT => ?_⟩
       · go_enter Tryz.func94, Tryz.ntmps94
         go_wp2_with (first
           | (go_at_call_of 70 (Value.float FloatKind.f64 x); refine (cx _).mono ?_; rintro e w' ⟨rfl, rfl⟩)
           | (go_at_call_of 70 (Value.float FloatKind.f64 y); refine (cy _).mono ?_; rintro e w' ⟨rfl, rfl⟩)
           | (go_at_call 58; refine (m1 _ hT).mono ?_; rintro e w1 ⟨rfl, b1⟩))
         go_ret
         exact ⟨rfl, b1⟩)
    | (clear hM
       simp only [Bool.not_false, Bool.and_self, if_true]
       refine ⟨by omega, fun w _ => ?_⟩
       · go_enter Tryz.func94, Tryz.ntmps94
         go_wp2_with (first
           | (go_at_call_of 70 (Value.float FloatKind.f64 x); refine (cx _).mono ?_; rintro e w' ⟨rfl, rfl⟩)
           | (go_at_call_of 70 (Value.float FloatKind.f64 y); refine (cy _).mono ?_; rintro e w' ⟨rfl, rfl⟩))
         go_ret
         exact ⟨rfl, Below.refl _ _⟩)
theorem corn_mulP {a b c d : Nat} (ha : a < 18446744073709551616) (hb : b < 18446744073709551616) (hc : c < 18446744073709551616) (hd : d < 18446744073709551616) (ra : sRt a b = true) (rb : sRt c d = true) : CornB 85 a b c d tB := by
  obtain ⟨na, nb, _⟩ := rt_facts ha hb ra
  obtain ⟨nc, nd, _⟩ := rt_facts hc hd rb
  refine fun m x y hx hy => ?_
  rcases hx with rfl | rfl <;> rcases hy with rfl | rfl <;>
    (have h := sprod_P m (x := x) (y := y) (by assumption) (by assumption) (by assumption) (by assumption)
     exact ⟨h.2, h.1⟩)
theorem zero_outP {c d : Nat} (hc : c < 18446744073709551616) (hd : d < 18446744073709551616) (rb : sRt c d = true) (h0 : (leF c 0 && leF 0 d) = false) : rung c ≠ 0 ∧ rung d ≠ 0 := by
 obtain ⟨nc, nd, _, _, hp⟩ := rt_facts hc hd rb
 rw [leF_num hc (by omega) nc (by decide), leF_num (by omega) hd (by decide) nd, show place 0 = 0 by decide] at h0
 simp only [Bool.and_eq_false_iff, decide_eq_false_iff_not] at h0
 constructor
 ·intro h
  have e : place c = 0 := by unfold place; rw [h]; cases sgn c <;> rfl
  omega
 ·intro h
  have e : place d = 0 := by unfold place; rw [h]; cases sgn d <;> rfl
  omega
theorem corn_divP {a b c d : Nat} (ha : a < 18446744073709551616) (hb : b < 18446744073709551616) (hc : c < 18446744073709551616) (hd : d < 18446744073709551616) (ra : sRt a b = true) (rb : sRt c d = true) (h0 : (leF c 0 && leF 0 d) = false) : CornB 94 a b c d oB := by
  obtain ⟨na, nb, _⟩ := rt_facts ha hb ra
  obtain ⟨nc, nd, _⟩ := rt_facts hc hd rb
  obtain ⟨c0, d0⟩ := zero_outP hc hd rb h0
  refine fun m x y hx hy => ?_
  rcases hx with rfl | rfl <;> rcases hy with rfl | rfl <;>
    (have h := squot_P m (x := x) (y := y) (by assumption) (by assumption) (by assumption) (by assumption) (by assumption)
     exact ⟨h.2, h.1⟩)
set_option maxHeartbeats 2000000 in
theorem ssqrt_B (l u lo hi : Nat) (_hl : l < 18446744073709551616) (_hh : u < 18446744073709551616) (q : sRt l u = true) (o : (FloatKind.f64.format.order l 0 == some .lt) = false) (h1 : TR 69 l 1 lo) (h2 : TR 69 u 2 hi) (w : World) (hT : TabW w) :
  Calls Tryz.prog 68 #[spV l u] w fun e w' => e = .returned (.tuple #[spV lo hi, .int .i64 0]) ∧ Below w.heap.size w w' := by
 have hst := run_storef Tryz.prog
 have r1 := fun w => sright_any l u w
 rw [q] at r1
 go_enter Tryz.func68, Tryz.ntmps68
 go_upto_region 3 with (go_at_call 81; refine (r1 _).mono ?_; rintro e W ⟨rfl, b1⟩; obtain ⟨ka0, ka1, _⟩ := ((Bx.new _ _ _ _).alloc _).below b1)
 have A0 := ((Bx.new w (.float .f64 l) (.float .f64 u) 43).alloc (.cells #[.float .f64 0, .float .f64 0] 43)).below b1
 have R0 := (Bx.new1 w (.float .f64 0) (.float .f64 0) (.cells #[.float .f64 l, .float .f64 u] 43) 43).below b1
 have Z0 := old2 b1
 have T0 := tabW_below hT Z0
 obtain ⟨p1, hp1⟩ : ∃ p, w.heap.size = p := ⟨_, rfl⟩
 obtain ⟨p3, hp3⟩ : ∃ p, w.heap.size + 1 = p := ⟨_, rfl⟩
 have hp13 : w.heap.size ≤ p3 := by omega
 rw [hp3] at R0 ⊢
 rw [hp1] at A0
 rw [show (Value.pointer (some ⟨w.heap.size, 0, none⟩)) = Value.pointer (some ⟨p1, 0, none⟩) by rw [hp1]]
 clear b1 ka0 ka1
 have D0 := tabW_below T0 (Below.refl W.heap.size W).drew
 have m1 : ¬ p1 = p3 := by omega
 have m3 : ¬ p3 = p1 := by omega
 clear hp1 hp3
 have ka0 := A0.1
 have ka1 := A0.2.1
 go_region_held3 (fun w' => w'.cell? ⟨p1, 0, none⟩ = some (.float .f64 l) ∧ w'.cell? ⟨p1, 1, none⟩ = some (.float .f64 u)) (go_keep)
  (first
   | (go_at_call_of 69 (Value.int IntKind.i8 1); refine (h1 _ T1).mono ?_; rintro e x2 ⟨rfl, y2⟩; have z2 := z1.trans (y2.mono z1.size); obtain ⟨ka0, ka1, _⟩ := A0.below z2; obtain ⟨kr0, kr1, kr2, kr3, _⟩ := R0.below z2)
   | (go_at_call_of 69 (Value.int IntKind.i8 2); refine (h2 _ T1).mono ?_; rintro e x2 ⟨rfl, y2⟩; have z2 := z1.trans (y2.mono z1.size); obtain ⟨ka0, ka1, _⟩ := A0.below z2; obtain ⟨kr0, kr1, kr2, kr3, _⟩ := R0.below z2)
   | (go_at_call_of 69 (Value.int IntKind.i8 1); refine (h1 _ D0).mono ?_; rintro e x1 ⟨rfl, y1⟩; have z1 := udrew y1; have T1 := tabW_below T0 z1; obtain ⟨ka0, ka1, _⟩ := A0.below z1)
   | (go_at_call_of 69 (Value.int IntKind.i8 2); refine (h2 _ D0).mono ?_; rintro e x1 ⟨rfl, y1⟩; have z1 := udrew y1; have T1 := tabW_below T0 z1; obtain ⟨ka0, ka1, _⟩ := A0.below z1))
 all_goals
  go_wp2
  exact bodyPost_ret (v := .tuple #[spV lo hi, .int .i64 0]) (by simp [results, Tryz.results68, go_sem, kr0, kr1]) rfl ⟨rfl, set2 (Z0.trans (z2.mono Z0.size)) hp13 _ _⟩
end Go.Proofs.YtfipmopmpacdaaaGreatDoor
