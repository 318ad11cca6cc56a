/- What span's Meet and Hull (of two) answer of right spans, call by call. -/
import Derived.Test.YtbhkgjjogepgnaaDoorZK
import Derived.Test.YtbhkgjjogepgnaaDoorZu
import Derived.Test.YtbhkgjjogepgnaaDoorZj
namespace Go.Proofs.YtbhkgjjogepgnaaDoor
open Go.RowKit

abbrev TR (f : Nat) (x : Nat) (m : Int) (r : Nat) : Prop := ∀ w, TabW w → Calls Tryd.prog f #[.float .f64 x, .int .i8 m] w fun e w' => e = .returned (.float .f64 r) ∧ Below w.heap.size w w'
def sqB (m : Int) (x : Nat) : Nat := if someB x && !sgn x then stepF (tQ x) (tS x) m else (FloatKind.f64.format.sqrt x).getD 0
theorem sqrtS_ok {x : Nat} (hx : x < 18446744073709551616) (nx : nanB x = false) (h : sgn x = false ∨ rung x = 0) : (FloatKind.f64.format.sqrt x).isSome = true := by
  show (((Ieee.double.read x).root 54).map Ieee.double.write).isSome = true
  rw [read_nn hx nx]
  cases fx : finB x
  · simp only [Bool.false_eq_true, if_false, Ieee.Datum.root]
    rcases h with h | h
    · rw [h]; rfl
    · exfalso; unfold finB at fx; simp at fx; omega
  · simp only [if_true, Ieee.Datum.root]
    by_cases m0 : mg (rung x) = 0
    · rw [if_pos m0]; rfl
    · rw [if_neg m0]
      rcases h with h | h
      · rw [h]; rfl
      · exact absurd (mg_nil.2 h) m0
theorem addB_near {x y : Nat} (hx : x < 18446744073709551616) (hy : y < 18446744073709551616) : addB 0 x y = (floatBits .add .f64 x y).getD 0 := by
  unfold addB
  cases hf : (finB x && finB y)
  · rfl
  · have fx : finB x = true := by revert hf; cases finB x <;> simp
    have fy : finB y = true := by revert hf; cases finB x <;> simp
    rw [if_pos rfl, addV_near hx hy fx fy]
    rfl
theorem divB_near (x y : Nat) : divB 0 x y = (floatBits .quo .f64 x y).getD 0 := by
  unfold divB
  cases (someB x && someB y)
  · rfl
  · rw [if_pos rfl, stepF_near]; rfl
/-- Half of a finite float is finite. -/
theorem half_fin {a q : Nat} (ha : a < 18446744073709551616) (fa : finB a = true) (hq : floatBits .quo .f64 a 4611686018427387904 = some q) : finB q = true := by
  have hr := fin_rung fa
  rw [(fbits_map a _).2.2.2, read_fin ha fa, read_two] at hq
  simp only [Ieee.Datum.quotient] at hq
  rw [if_neg (by omega)] at hq
  simp only [Option.map_some, Ieee.Format.write, Option.some.injEq] at hq
  by_cases h0 : rung a = 0
  · have e : mg (rung a) = 0 := mg_nil.2 h0
    rw [e, Nat.zero_shiftLeft] at hq
    have e2 : q = Ieee.double.word (sgn a ^^ false) 0 := by rw [← hq]; rfl
    unfold finB
    rw [e2, (word_rung _ (by omega)).1]; decide
  · have m1 : mg (rung a) ≠ 0 := fun h => h0 (mg_nil.1 h)
    have m2 : mg (rung a) < 9007199254740992 := by unfold mg; split <;> omega
    have hl := log_bd m1 m2
    have l2 : (4503599627370496 : Nat).log2 = 52 := by decide
    rw [l2] at hq
    obtain ⟨more, hmore⟩ : ∃ d, 54 + 52 - (mg (rung a)).log2 = d := ⟨_, rfl⟩
    rw [hmore] at hq
    obtain ⟨j, hj⟩ : ∃ j, more = 52 + j := ⟨more - 52, by omega⟩
    have hdvd : mg (rung a) <<< more = mg (rung a) * 2 ^ j * 4503599627370496 := by
      rw [Nat.shiftLeft_eq, hj, Nat.pow_add, show (2 : Nat) ^ 52 = 4503599627370496 by decide, Nat.mul_comm 4503599627370496, Nat.mul_assoc]
    rw [hdvd, Nat.mul_div_cancel _ (by omega), Nat.mul_mod_left] at hq
    have hb : ((0 : Nat) != 0).toNat = 0 := rfl
    rw [hb, Nat.add_zero] at hq
    have mne : 2 * (mg (rung a) * 2 ^ j) ≠ 0 := by
      have := Nat.mul_pos (Nat.pos_of_ne_zero m1) (Nat.two_pow_pos j)
      omega
    obtain ⟨k, ek, hk, c⟩ := near_anyD (sgn a ^^ false) (-1074 + ((up (rung a) : Nat) : Int) - -51 - (more : Int) - 1) (j + 2) (m := 2 * (mg (rung a) * 2 ^ j)) mne (by omega)
    rw [ek] at hq
    have hexp : (-1074 + ((up (rung a) : Nat) : Int) - -51 - (more : Int) - 1 + 1074 + ((j + 2 : Nat) : Int)).toNat = up (rung a) := by omega
    rw [hexp] at c
    have hA : 2 * (2 * (mg (rung a) * 2 ^ j) * 2 ^ up (rung a)) = val (rung a) * 2 ^ (j + 2) := by
      rw [← mg_up (rung a), Nat.pow_add]
      generalize mg (rung a) = M
      generalize 2 ^ up (rung a) = U
      generalize (2 : Nat) ^ j = J
      rw [show (2 : Nat) ^ 2 = 4 by decide]
      have e1 : 2 * (2 * (M * J) * U) = 4 * (M * J * U) := by rw [Nat.mul_assoc 2, ← Nat.mul_assoc]
      have e2 : M * U * (J * 4) = 4 * (M * J * U) := by
        rw [← Nat.mul_assoc, Nat.mul_comm _ 4, Nat.mul_assoc M U J, Nat.mul_comm U J, ← Nat.mul_assoc M]
      rw [e1, e2]
    have hle : k ≤ rung a := by
      rcases Nat.lt_or_ge (rung a) k with g | g
      · exfalso
        have hb2 := (c (rung a) hr).1 g
        have hv := Nat.mul_lt_mul_of_pos_right (val_step (rung a)) (Nat.two_pow_pos (j + 2))
        unfold aboveD at hb2
        rw [Nat.add_mul, hA] at hb2
        rcases hb2 with g | ⟨g, _⟩ <;> omega
      · exact g
    unfold finB
    rw [← hq, (word_rung _ (by omega)).1]
    exact decide_eq_true (by omega)
/-- The greater one of two sizes, as max tells it. -/
theorem run_maxf {P : Program} {x y : Nat} (hx : x ≤ 9218868437227405312) (hy : y ≤ 9218868437227405312) (ts : Array TypeId) (t : TypeId) (w : World) : (Builtin.max_ ts t #[.float .f64 x, .float .f64 y]).run P w = .ok (.float .f64 (grF x y)) w := by
  have nx : nanB x = false := nan_small hx
  have ny : nanB y = false := nan_small hy
  have h1 := rung_small (show x < 9223372036854775808 by omega)
  have h2 := rung_small (show y < 9223372036854775808 by omega)
  have s1 := sgn_small (show x < 9223372036854775808 by omega)
  have s2 := sgn_small (show y < 9223372036854775808 by omega)
  have e : Builtin.max_ ts t #[.float .f64 x, .float .f64 y] = Builtin.max2 (.float .f64 x) (.float .f64 y) := by
    unfold Builtin.max_
    simp
  rw [e]
  unfold Builtin.max2
  simp only
  have hg := grF_key x y
  have kx : key x = 2 * (x : Int) + 1 := by unfold key place; rw [nx, s1, h1]; simp
  have ky : key y = 2 * (y : Int) + 1 := by unfold key place; rw [ny, s2, h2]; simp
  rw [kx, ky] at hg
  rcases Nat.lt_trichotomy x y with h | h | h
  · have ho : FloatKind.f64.format.order x y = some .lt := by
      have := lt_num (show x < 18446744073709551616 by omega) (show y < 18446744073709551616 by omega) nx ny
      rw [place_small (by omega), place_small (by omega), decide_eq_true (by omega)] at this
      simpa using this
    have hv : grF x y = y := by rw [hg]; exact if_pos (by omega)
    rw [ho, hv]
    rfl
  · subst h
    have ho : FloatKind.f64.format.order x x = some .eq := by
      have := eq_num (show x < 18446744073709551616 by omega) (show x < 18446744073709551616 by omega) nx nx
      rw [decide_eq_true rfl] at this
      simpa using this
    have hv : grF x x = x := by rw [hg]; exact if_neg (by omega)
    rw [ho, hv]
    simp only [ite_self]
    rfl
  · have ho : FloatKind.f64.format.order x y = some .gt := by
      have := gt_num (show x < 18446744073709551616 by omega) (show y < 18446744073709551616 by omega) nx ny
      rw [place_small (by omega), place_small (by omega), decide_eq_true (by omega)] at this
      simpa using this
    have hv : grF x y = x := by rw [hg]; exact if_neg (by omega)
    rw [ho, hv]
    rfl
end Go.Proofs.YtbhkgjjogepgnaaDoor

namespace Go.Proofs.YtbhkgjjogepgnaaDoor
open Go.RowKit

theorem radd_P (m : Int) {x y : Nat} (hx : x < 18446744073709551616) (hy : y < 18446744073709551616) (h : (floatBits .add .f64 x y).isSome = true) : addB m x y < 18446744073709551616 ∧ TB 44 x y m (addB m x y) := by
  unfold addB
  cases hf : (finB x && finB y)
  · have hf' : finB x = false ∨ finB y = false := by
      revert hf; cases finB x <;> cases finB y <;> simp
    simp only [Bool.false_eq_true, if_false]
    refine ⟨?_, fun w _ => (radd_inf x y m hx hy hf' w).mono ?_⟩
    · obtain ⟨v, hv⟩ := Option.isSome_iff_exists.1 h
      rw [hv]
      exact (add_word hv).1
    · rintro e w' ⟨⟨r, rfl, hN⟩, hb⟩; exact ⟨by rw [nr_at h hN], hb⟩
  · have fx : finB x = true := by revert hf; cases finB x <;> simp
    have fy : finB y = true := by revert hf; cases finB x <;> simp
    simp only [if_true]
    refine ⟨addV_lt m hx hy fx fy, fun w _ => (radd_gen x y m hx hy fx fy w).mono ?_⟩
    rintro e w' ⟨rfl, rfl⟩; exact ⟨rfl, Below.refl _ _⟩
theorem rmul_P (m : Int) {x y : Nat} (hx : x < 18446744073709551616) (hy : y < 18446744073709551616) (h : (floatBits .mul .f64 x y).isSome = true) : mulB m x y < 18446744073709551616 ∧ TB 32 x y m (mulB m x y) := by
  obtain ⟨v, hv⟩ := Option.isSome_iff_exists.1 h
  unfold mulB
  cases hf : (someB x && someB y)
  · simp only [Bool.false_eq_true, if_false]
    refine ⟨?_, fun w _ => (rmul_sp x y m hx hy hf w).mono ?_⟩
    · rw [hv]
      exact (op_word (op := .mul) (Or.inr (Or.inr (Or.inl rfl))) hv).1
    · rintro e w' ⟨r, rfl, hN, hb⟩; exact ⟨by rw [nr_at h hN], hb⟩
  · have sx : someB x = true := by revert hf; cases someB x <;> simp
    have sy : someB y = true := by revert hf; cases someB x <;> simp
    simp only [if_true]
    have hq : floatBits .mul .f64 x y = some (pQ x y) := by unfold pQ; rw [hv]; rfl
    exact ⟨stepF_lt _ _ (op_word (op := .mul) (Or.inr (Or.inr (Or.inl rfl))) hq).1, fun w hT => (rmul_any x y m hx hy sx sy w hT).2⟩
theorem rdiv_P (m : Int) {x y : Nat} (hx : x < 18446744073709551616) (hy : y < 18446744073709551616) (h : (floatBits .quo .f64 x y).isSome = true) : divB m x y < 18446744073709551616 ∧ TB 48 x y m (divB m x y) := by
  obtain ⟨v, hv⟩ := Option.isSome_iff_exists.1 h
  unfold divB
  cases hf : (someB x && someB y)
  · simp only [Bool.false_eq_true, if_false]
    refine ⟨?_, fun w _ => (rdiv_sp x y m hx hy hf w).mono ?_⟩
    · rw [hv]
      exact (op_word (op := .quo) (Or.inr (Or.inr (Or.inr rfl))) hv).1
    · rintro e w' ⟨r, rfl, hN, hb⟩; exact ⟨by rw [nr_at h hN], hb⟩
  · have sx : someB x = true := by revert hf; cases someB x <;> simp
    have sy : someB y = true := by revert hf; cases someB x <;> simp
    simp only [if_true]
    have hq : floatBits .quo .f64 x y = some (kQ x y) := by unfold kQ; rw [hv]; rfl
    exact ⟨stepF_lt _ _ (op_word (op := .quo) (Or.inr (Or.inr (Or.inr rfl))) hq).1, fun w hT => (rdiv_any x y m hx hy sx sy w hT).2⟩
theorem rsqrt_P (m : Int) {x : Nat} (hx : x < 18446744073709551616) (h : (FloatKind.f64.format.sqrt x).isSome = true) : sqB m x < 18446744073709551616 ∧ TR 33 x m (sqB m x) := by
  obtain ⟨v, hv⟩ := Option.isSome_iff_exists.1 h
  unfold sqB
  cases hs : (someB x && !sgn x)
  · simp only [Bool.false_eq_true, if_false]
    refine ⟨?_, fun w _ => (rsqrt_sp x m hx hs w).mono ?_⟩
    · rw [hv]
      exact (sqrt_word hv).1
    · rintro e w' ⟨r, rfl, hN, hb⟩; exact ⟨by rw [nr_at h hN], hb⟩
  · have sx : someB x = true := by revert hs; cases someB x <;> simp
    have sg : sgn x = false := by revert hs; cases someB x <;> simp
    simp only [if_true]
    exact ⟨stepF_lt _ _ (sqrt_word (root_some hx sx sg)).1, fun w hT => rsqrt_any x m hx sx sg w hT⟩
theorem rsub_P (m : Int) {x y : Nat} (hx : x < 18446744073709551616) (hy : y < 18446744073709551616) (h : (floatBits .add .f64 x (negW y)).isSome = true) : addB m x (negW y) < 18446744073709551616 ∧ TB 29 x y m (addB m x (negW y)) := by
  obtain ⟨h1, h2⟩ := radd_P m hx (negW_lt hy) h
  refine ⟨h1, fun w hT => (rsub_of x y m w (fun r w' => r = addB m x (negW y) ∧ Below w.heap.size w w') ((h2 w hT).mono fun e w' ⟨he, hb⟩ => ⟨_, he, rfl, hb⟩)).mono ?_⟩
  · rintro e w' ⟨r, rfl, rfl, hb⟩; exact ⟨rfl, hb⟩
set_option maxHeartbeats 4000000 in
theorem sprod_P (m : Int) {x y : Nat} (hx : x < 18446744073709551616) (hy : y < 18446744073709551616) (nx : nanB x = false) (ny : nanB y = false) : tB m x y < 18446744073709551616 ∧ TB 46 x y m (tB m x y) := by
  have cx := sfin_any x hx
  have cy := sfin_any y hy
  have z1 := zero_eq hx
  have z2 := zero_eq hy
  have hM := fun h => rmul_P m hx hy (mulS_ok hx hy nx ny h)
  unfold tB
  cases q1 : (rung x == 0) <;> rw [q1] at z1 hM <;> cases q2 : (rung y == 0) <;> rw [q2] at z2 hM <;> cases fx : finB x <;> rw [fx] at cx hM <;> cases fy : finB y <;> rw [fy] at cy hM <;>
    first
    | (obtain ⟨m0, m1⟩ := hM rfl
       simp only [Bool.and_false, Bool.and_true, Bool.or_self, Bool.and_self, Bool.not_true, Bool.not_false, Bool.false_eq_true, if_false]
       refine ⟨m0, fun w hT => ?_⟩
       · go_enter Tryd.func46, Tryd.ntmps46
         go_wp2_with (first
           | (go_at_call_of 42 (Value.float FloatKind.f64 x); refine (cx _).mono ?_; rintro e w' ⟨rfl, rfl⟩)
           | (go_at_call_of 42 (Value.float FloatKind.f64 y); refine (cy _).mono ?_; rintro e w' ⟨rfl, rfl⟩)
           | (go_at_call 32; refine (m1 _ hT).mono ?_; rintro e w1 ⟨rfl, b1⟩))
         go_ret
         exact ⟨rfl, b1⟩)
    | (clear hM
       simp only [Bool.and_false, Bool.and_true, Bool.or_false, Bool.or_self, Bool.and_self, Bool.or_true, Bool.not_true, Bool.not_false, if_true]
       refine ⟨by omega, fun w _ => ?_⟩
       · go_enter Tryd.func46, Tryd.ntmps46
         go_wp2_with (first
           | (go_at_call_of 42 (Value.float FloatKind.f64 x); refine (cx _).mono ?_; rintro e w' ⟨rfl, rfl⟩)
           | (go_at_call_of 42 (Value.float FloatKind.f64 y); refine (cy _).mono ?_; rintro e w' ⟨rfl, rfl⟩))
         go_ret
         exact ⟨rfl, Below.refl _ _⟩)
set_option maxHeartbeats 4000000 in
theorem squot_P (m : Int) {x y : Nat} (hx : x < 18446744073709551616) (hy : y < 18446744073709551616) (nx : nanB x = false) (ny : nanB y = false) (y0 : rung y ≠ 0) : oB m x y < 18446744073709551616 ∧ TB 47 x y m (oB m x y) := by
  have cx := sfin_any x hx
  have cy := sfin_any y hy
  have hM := fun h => rdiv_P m hx hy (divS_ok hx hy nx ny h y0)
  unfold oB
  clear y0
  cases fx : finB x <;> rw [fx] at cx hM <;> cases fy : finB y <;> rw [fy] at cy hM <;>
    first
    | (obtain ⟨m0, m1⟩ := hM rfl
       simp only [Bool.and_false, Bool.and_true, Bool.and_self, Bool.not_true, Bool.not_false, Bool.false_eq_true, if_false]
       refine ⟨m0, fun w hT => ?_⟩
       · go_enter Tryd.func47, Tryd.ntmps47
         go_wp2_with (first
           | (go_at_call_of 42 (Value.float FloatKind.f64 x); refine (cx _).mono ?_; rintro e w' ⟨rfl, rfl⟩)
           | (go_at_call_of 42 (Value.float FloatKind.f64 y); refine (cy _).mono ?_; rintro e w' ⟨rfl, rfl⟩)
           | (go_at_call 48; refine (m1 _ hT).mono ?_; rintro e w1 ⟨rfl, b1⟩))
         go_ret
         exact ⟨rfl, b1⟩)
    | (clear hM
       simp only [Bool.not_false, Bool.and_self, if_true]
       refine ⟨by omega, fun w _ => ?_⟩
       · go_enter Tryd.func47, Tryd.ntmps47
         go_wp2_with (first
           | (go_at_call_of 42 (Value.float FloatKind.f64 x); refine (cx _).mono ?_; rintro e w' ⟨rfl, rfl⟩)
           | (go_at_call_of 42 (Value.float FloatKind.f64 y); refine (cy _).mono ?_; rintro e w' ⟨rfl, rfl⟩))
         go_ret
         exact ⟨rfl, Below.refl _ _⟩)
theorem corn_mulP {a b c d : Nat} (ha : a < 18446744073709551616) (hb : b < 18446744073709551616) (hc : c < 18446744073709551616) (hd : d < 18446744073709551616) (ra : sRt a b = true) (rb : sRt c d = true) : CornB 46 a b c d tB := by
  obtain ⟨na, nb, _⟩ := rt_facts ha hb ra
  obtain ⟨nc, nd, _⟩ := rt_facts hc hd rb
  refine fun m x y hx hy => ?_
  rcases hx with rfl | rfl <;> rcases hy with rfl | rfl <;>
    (have h := sprod_P m (x := x) (y := y) (by assumption) (by assumption) (by assumption) (by assumption)
     exact ⟨h.2, h.1⟩)
theorem zero_outP {c d : Nat} (hc : c < 18446744073709551616) (hd : d < 18446744073709551616) (rb : sRt c d = true) (h0 : (leF c 0 && leF 0 d) = false) : rung c ≠ 0 ∧ rung d ≠ 0 := by
  obtain ⟨nc, nd, _, _, hp⟩ := rt_facts hc hd rb
  rw [leF_num hc (by omega) nc (by decide), leF_num (by omega) hd (by decide) nd, show place 0 = 0 by decide] at h0
  simp only [Bool.and_eq_false_iff, decide_eq_false_iff_not] at h0
  constructor
  · intro h
    have e : place c = 0 := by unfold place; rw [h]; cases sgn c <;> rfl
    omega
  · intro h
    have e : place d = 0 := by unfold place; rw [h]; cases sgn d <;> rfl
    omega
theorem corn_divP {a b c d : Nat} (ha : a < 18446744073709551616) (hb : b < 18446744073709551616) (hc : c < 18446744073709551616) (hd : d < 18446744073709551616) (ra : sRt a b = true) (rb : sRt c d = true) (h0 : (leF c 0 && leF 0 d) = false) : CornB 47 a b c d oB := by
  obtain ⟨na, nb, _⟩ := rt_facts ha hb ra
  obtain ⟨nc, nd, _⟩ := rt_facts hc hd rb
  obtain ⟨c0, d0⟩ := zero_outP hc hd rb h0
  refine fun m x y hx hy => ?_
  rcases hx with rfl | rfl <;> rcases hy with rfl | rfl <;>
    (have h := squot_P m (x := x) (y := y) (by assumption) (by assumption) (by assumption) (by assumption) (by assumption)
     exact ⟨h.2, h.1⟩)
end Go.Proofs.YtbhkgjjogepgnaaDoor

namespace Go.Proofs.YtbhkgjjogepgnaaDoor
open Go.RowKit

set_option maxHeartbeats 1000000 in
theorem sleast_one (x y B : Nat) (hx : x < 18446744073709551616) (hy : y < 18446744073709551616) (w : World) (h0 : w.cell? ⟨B, 0, none⟩ = some (.float .f64 y)) :
    Calls Tryd.prog 26 #[.float .f64 x, .slice (some ⟨B, 0, none⟩) 1 1] w fun e w' => e = .returned (.float .f64 (lsF x y)) ∧ w' = w := by
  obtain ⟨u, hu⟩ : ∃ u, lsF x y = u := ⟨_, rfl⟩
  have E1 : Hid (u = lsF x y) := hu.symm
  rw [hu]
  clear hu
  have co := order_any y x hy hx
  go_enter Tryd.func26, Tryd.ntmps26
  go_wp2
  go_loopg [0, 6, 9] 1 (fun g v _ c wr => ∃ k : Nat, k ≤ 1 ∧ g = 1 - k ∧ c = .int .i64 k ∧ wr = w ∧ v = .float .f64 (if k = 0 then x else u))
  case atStart => exact ⟨0, by omega, rfl, rfl, rfl, rfl⟩
  case round =>
    obtain ⟨k, hk, hg, rfl, rfl, rfl⟩ := hrel
    have HG : Hid (gk = 1 - k) := hg
    clear hg
    rcases (show k = 0 ∨ k = 1 by omega) with rfl | rfl
    · by_cases q : ordF y x < 0
      · have hv : u = y := by rw [E1.out]; unfold lsF; rw [if_pos q]
        go_wp2_with (go_at_call 43; refine (co _).mono ?_; rintro e w' ⟨rfl, rfl⟩)
        go_roundg 0
        case measure => rw [HG.out]; omega
        case rel => exact ⟨1, by omega, rfl, rfl, rfl, by rw [← hv]; rfl⟩
      · have hv : u = x := by rw [E1.out]; unfold lsF; rw [if_neg q]
        go_wp2_with (go_at_call 43; refine (co _).mono ?_; rintro e w' ⟨rfl, rfl⟩)
        go_roundg 0
        case measure => rw [HG.out]; omega
        case rel => exact ⟨1, by omega, rfl, rfl, rfl, by rw [← hv]; rfl⟩
    · go_wp2
      go_ret
      exact ⟨rfl, rfl⟩
set_option maxHeartbeats 1000000 in
theorem sgreatest_one (x y B : Nat) (hx : x < 18446744073709551616) (hy : y < 18446744073709551616) (w : World) (h0 : w.cell? ⟨B, 0, none⟩ = some (.float .f64 y)) :
    Calls Tryd.prog 25 #[.float .f64 x, .slice (some ⟨B, 0, none⟩) 1 1] w fun e w' => e = .returned (.float .f64 (grF x y)) ∧ w' = w := by
  obtain ⟨u, hu⟩ : ∃ u, grF x y = u := ⟨_, rfl⟩
  have E1 : Hid (u = grF x y) := hu.symm
  rw [hu]
  clear hu
  have co := order_any y x hy hx
  go_enter Tryd.func25, Tryd.ntmps25
  go_wp2
  go_loopg [0, 6, 9] 1 (fun g v _ c wr => ∃ k : Nat, k ≤ 1 ∧ g = 1 - k ∧ c = .int .i64 k ∧ wr = w ∧ v = .float .f64 (if k = 0 then x else u))
  case atStart => exact ⟨0, by omega, rfl, rfl, rfl, rfl⟩
  case round =>
    obtain ⟨k, hk, hg, rfl, rfl, rfl⟩ := hrel
    have HG : Hid (gk = 1 - k) := hg
    clear hg
    rcases (show k = 0 ∨ k = 1 by omega) with rfl | rfl
    · by_cases q : 0 < ordF y x
      · have hv : u = y := by rw [E1.out]; unfold grF; rw [if_pos q]
        go_wp2_with (go_at_call 43; refine (co _).mono ?_; rintro e w' ⟨rfl, rfl⟩)
        go_roundg 0
        case measure => rw [HG.out]; omega
        case rel => exact ⟨1, by omega, rfl, rfl, rfl, by rw [← hv]; rfl⟩
      · have hv : u = x := by rw [E1.out]; unfold grF; rw [if_neg q]
        go_wp2_with (go_at_call 43; refine (co _).mono ?_; rintro e w' ⟨rfl, rfl⟩)
        go_roundg 0
        case measure => rw [HG.out]; omega
        case rel => exact ⟨1, by omega, rfl, rfl, rfl, by rw [← hv]; rfl⟩
    · go_wp2
      go_ret
      exact ⟨rfl, rfl⟩
theorem old4' {w w1 : World} {o p q r : Obj} (hb : Below ((((w.alloc o).alloc p).alloc q).alloc r).heap.size ((((w.alloc o).alloc p).alloc q).alloc r) w1) : Below w.heap.size w w1 := old1 (old3 hb)
set_option maxHeartbeats 1600000 in
theorem sin_any (a b c d : Nat) (w : World) :
    Calls Tryd.prog 7 #[spV a b, spV c d] w fun e w' => e = .returned (.bool (sRt a b && sRt c d && leF c a && leF b d)) ∧ Below w.heap.size w w' := by
  have e1 : (FloatKind.f64.format.order c a == some .lt || FloatKind.f64.format.order c a == some .eq) = leF c a := rfl
  have e2 : (FloatKind.f64.format.order b d == some .lt || FloatKind.f64.format.order b d == some .eq) = leF b d := rfl
  obtain ⟨r, hr⟩ : ∃ r, (sRt a b && sRt c d) = r := ⟨_, rfl⟩
  rw [hr]
  cases r
  · go_enter Tryd.func7, Tryd.ntmps7
    go_wp2_with (go_at_call 24; refine (sall_two a b c d _ _ (by go_simp) (by go_simp) (by go_simp) (by go_simp) (by go_simp)).mono ?_; rw [hr]; rintro e w1 ⟨rfl, b1⟩)
    go_ret
    exact ⟨rfl, old3 b1⟩
  · cases q1 : leF c a <;> rw [q1] at e1 <;> cases q2 : leF b d <;> rw [q2] at e2 <;>
      (go_enter Tryd.func7, Tryd.ntmps7
       go_wp2_with (go_at_call 24; refine (sall_two a b c d _ _ (by go_simp) (by go_simp) (by go_simp) (by go_simp) (by go_simp)).mono ?_; rw [hr]; rintro e w1 ⟨rfl, b1⟩; obtain ⟨a0, a1, _⟩ := (((Bx.new _ _ _ _).alloc _).alloc _).below b1; obtain ⟨d0, d1, _⟩ := ((Bx.new1 _ _ _ _ _).alloc _).below b1)
       go_ret
       exact ⟨rfl, old3 b1⟩)
set_option maxHeartbeats 1600000 in
theorem smeet_not (a b c d : Nat) (hr : (sRt a b && sRt c d) = false) (w : World) :
    Calls Tryd.prog 6 #[spV a b, spV c d] w fun e w' => e = .returned (.tuple #[spV 0 0, .int .i64 2]) ∧ Below w.heap.size w w' := by
  have hst := run_storef Tryd.prog
  go_enter Tryd.func6, Tryd.ntmps6
  go_wp2_with (go_at_call 24; refine (sall_two a b c d _ _ (by go_simp) (by go_simp) (by go_simp) (by go_simp) (by go_simp)).mono ?_; rw [hr]; rintro e w1 ⟨rfl, b1⟩; obtain ⟨c0, c1, f0, f1, _⟩ := ((Bx.new2 _ _ _ _ _ _).alloc _).below b1)
  exact bodyPost_ret (v := .tuple #[spV 0 0, .int .i64 2]) (by simp [results, Tryd.results6, go_sem, c0, c1]) rfl ⟨rfl, set2 (old4' b1) (by omega) _ _⟩
end Go.Proofs.YtbhkgjjogepgnaaDoor

namespace Go.Proofs.YtbhkgjjogepgnaaDoor
open Go.RowKit

theorem neg_of (x : Nat) : Op.unary .neg (.float .f64 x) = pure (.float .f64 (negW x)) := rfl
set_option maxHeartbeats 1600000 in
theorem ssize_any (l u : Nat) (hl : l < 18446744073709551616) (hh : u < 18446744073709551616) (w : World) :
    Calls Tryd.prog 50 #[spV l u] w fun e w' => e = .returned (.float .f64 (grF (rung l) (rung u))) ∧ Below w.heap.size w w' := by
  have ca := abs_any l hl
  have cb := abs_any u hh
  have ra : rung l < 18446744073709551616 := by have := rung_lt l; omega
  have rb : rung u < 18446744073709551616 := by have := rung_lt u; omega
  generalize rung l = x at *
  generalize rung u = y at *
  go_enter Tryd.func50, Tryd.ntmps50
  go_wp2
  go_region_held3 (fun w' => w'.cell? ⟨w.heap.size, 0, none⟩ = some (.float .f64 l) ∧ w'.cell? ⟨w.heap.size, 1, none⟩ = some (.float .f64 u)) (go_keep)
    (first
      | (go_at_call_of 69 (Value.float FloatKind.f64 l); refine (ca _).mono ?_; rintro e w' ⟨rfl, rfl⟩)
      | (go_at_call_of 69 (Value.float FloatKind.f64 u); refine (cb _).mono ?_; rintro e w' ⟨rfl, rfl⟩)
      | (go_at_call 25; refine (sgreatest_one _ _ _ ra rb _ (by go_simp)).mono ?_; rintro e w' ⟨rfl, rfl⟩))
  all_goals
    go_wp2
    go_ret
    exact ⟨rfl, by first | exact ((Below.refl _ _).alloc (Nat.le_refl _) _).drew.alloc (by simp) _ | exact (((Below.refl _ _).alloc (Nat.le_refl _) _).alloc (by simp) _).drew⟩
set_option maxHeartbeats 800000 in
theorem sneg_any (l u : Nat) (w : World) :
    Calls Tryd.prog 49 #[spV l u] w fun e w' => e = .returned (.tuple #[if sRt l u then spV (negW u) (negW l) else spV 0 0, .int .i64 (if sRt l u then 0 else 2)]) ∧ Below w.heap.size w w' := by
  have hst := run_storef Tryd.prog
  have hu := neg_of
  have r1 := fun w => sright_any l u w
  cases q : sRt l u <;> rw [q] at r1
  · go_enter Tryd.func49, Tryd.ntmps49
    go_wp2_with (go_at_call 14; refine (r1 _).mono ?_; rintro e v1 ⟨rfl, b1⟩; obtain ⟨a0, a1, _⟩ := ((Bx.new _ _ _ _).alloc _).below b1; obtain ⟨c0, c1, f0, f1, _⟩ := (Bx.new1 _ _ _ _ _).below b1)
    exact bodyPost_ret (v := .tuple #[spV 0 0, .int .i64 2]) (by simp [results, Tryd.results49, go_sem, c0, c1]) rfl ⟨rfl, set2 (old2 b1) (by omega) _ _⟩
  · go_enter Tryd.func49, Tryd.ntmps49
    go_wp2_with (go_at_call 14; refine (r1 _).mono ?_; rintro e v1 ⟨rfl, b1⟩; obtain ⟨a0, a1, _⟩ := ((Bx.new _ _ _ _).alloc _).below b1; obtain ⟨c0, c1, f0, f1, _⟩ := (Bx.new1 _ _ _ _ _).below b1)
    exact bodyPost_ret (v := .tuple #[spV (negW u) (negW l), .int .i64 0]) (by simp [results, Tryd.results49, go_sem, c0, c1]) rfl ⟨rfl, set2 (old2 b1) (by omega) _ _⟩
set_option maxHeartbeats 1600000 in
theorem sabs_not (l u : Nat) (_hl : l < 18446744073709551616) (_hh : u < 18446744073709551616) (q : sRt l u = false) (w : World) :
    Calls Tryd.prog 31 #[spV l u] w fun e w' => e = .returned (.tuple #[spV 0 0, .int .i64 2]) ∧ Below w.heap.size w w' := by
  have hst := run_storef Tryd.prog
  have r1 := fun w => sright_any l u w
  rw [q] at r1
  go_enter Tryd.func31, Tryd.ntmps31
  go_wp2_with (go_at_call 14; refine (r1 _).mono ?_; rintro e v1 ⟨rfl, b1⟩; obtain ⟨a0, a1, _⟩ := ((Bx.new _ _ _ _).alloc _).below b1; have R1 := (Bx.new1 _ _ _ _ _).below b1; obtain ⟨c0, c1, f0, f1, _⟩ := (Bx.new1 _ _ _ _ _).below b1)
  exact bodyPost_ret (v := .tuple #[spV 0 0, .int .i64 2]) (by simp [results, Tryd.results31, go_sem, c0, c1]) rfl ⟨rfl, set2 (old2 b1) (by omega) _ _⟩
set_option maxHeartbeats 1600000 in
theorem sabs_above (l u : Nat) (_hl : l < 18446744073709551616) (_hh : u < 18446744073709551616) (q : sRt l u = true) (o : (FloatKind.f64.format.order l 0 == some .gt) = true) (w : World) :
    Calls Tryd.prog 31 #[spV l u] w fun e w' => e = .returned (.tuple #[spV l u, .int .i64 0]) ∧ Below w.heap.size w w' := by
  have hst := run_storef Tryd.prog
  have r1 := fun w => sright_any l u w
  rw [q] at r1
  go_enter Tryd.func31, Tryd.ntmps31
  go_wp2_with (go_at_call 14; refine (r1 _).mono ?_; rintro e v1 ⟨rfl, b1⟩; obtain ⟨a0, a1, _⟩ := ((Bx.new _ _ _ _).alloc _).below b1; have R1 := (Bx.new1 _ _ _ _ _).below b1; obtain ⟨c0, c1, f0, f1, _⟩ := (Bx.new1 _ _ _ _ _).below b1)
  exact bodyPost_ret (v := .tuple #[spV l u, .int .i64 0]) (by simp [results, Tryd.results31, go_sem, c0, c1]) rfl ⟨rfl, set2 (old2 b1) (by omega) _ _⟩
set_option maxHeartbeats 1600000 in
theorem sabs_below (l u : Nat) (_hl : l < 18446744073709551616) (_hh : u < 18446744073709551616) (q : sRt l u = true) (o : (FloatKind.f64.format.order l 0 == some .gt) = false) (p : (FloatKind.f64.format.order u 0 == some .lt) = true) (w : World) :
    Calls Tryd.prog 31 #[spV l u] w fun e w' => e = .returned (.tuple #[spV (negW u) (negW l), .int .i64 0]) ∧ Below w.heap.size w w' := by
  have hst := run_storef Tryd.prog
  have r1 := fun w => sright_any l u w
  have n1 := fun w => sneg_any l u w
  rw [q] at r1 n1
  simp only [if_true] at n1
  go_enter Tryd.func31, Tryd.ntmps31
  go_wp2_with (first | (go_at_call 14; refine (r1 _).mono ?_; rintro e v1 ⟨rfl, b1⟩; obtain ⟨a0, a1, _⟩ := ((Bx.new _ _ _ _).alloc _).below b1; have R1 := (Bx.new1 _ _ _ _ _).below b1; obtain ⟨c0, c1, f0, f1, _⟩ := (Bx.new1 _ _ _ _ _).below b1) | (go_at_call 49; refine (n1 _).mono ?_; rintro e v2 ⟨rfl, b2⟩; obtain ⟨c0, c1, f0, f1, _⟩ := R1.below b2))
  exact bodyPost_ret (v := .tuple #[spV (negW u) (negW l), .int .i64 0]) (by simp [results, Tryd.results31, go_sem, c0, c1]) rfl ⟨rfl, set2 ((old2 b1).trans (b2.mono (old2 b1).size)) (by omega) _ _⟩
set_option maxHeartbeats 1600000 in
theorem sabs_mid (l u : Nat) (hl : l < 18446744073709551616) (hh : u < 18446744073709551616) (q : sRt l u = true) (o : (FloatKind.f64.format.order l 0 == some .gt) = false) (p : (FloatKind.f64.format.order u 0 == some .lt) = false) (w : World) :
    Calls Tryd.prog 31 #[spV l u] w fun e w' => e = .returned (.tuple #[spV 0 (grF (rung l) (rung u)), .int .i64 0]) ∧ Below w.heap.size w w' := by
  have hst := run_storef Tryd.prog
  have r1 := fun w => sright_any l u w
  have n1 := fun w => ssize_any l u hl hh w
  rw [q] at r1
  go_enter Tryd.func31, Tryd.ntmps31
  go_wp2_with (first | (go_at_call 14; refine (r1 _).mono ?_; rintro e v1 ⟨rfl, b1⟩; obtain ⟨a0, a1, _⟩ := ((Bx.new _ _ _ _).alloc _).below b1; have R1 := (Bx.new1 _ _ _ _ _).below b1; obtain ⟨c0, c1, f0, f1, _⟩ := (Bx.new1 _ _ _ _ _).below b1) | (go_at_call 50; refine (n1 _).mono ?_; rintro e v2 ⟨rfl, b2⟩; obtain ⟨c0, c1, f0, f1, _⟩ := R1.below b2))
  exact bodyPost_ret (v := .tuple #[spV 0 (grF (rung l) (rung u)), .int .i64 0]) (by simp [results, Tryd.results31, go_sem, c0, c1]) rfl ⟨rfl, set2 ((old2 b1).trans (b2.mono (old2 b1).size)) (by omega) _ _⟩
end Go.Proofs.YtbhkgjjogepgnaaDoor

namespace Go.Proofs.YtbhkgjjogepgnaaDoor
open Go.RowKit

set_option maxHeartbeats 1600000 in
theorem ssquare_not (l u : Nat) (ca : ∀ w, TabW w → Calls Tryd.prog 31 #[spV l u] w fun e w' => e = .returned (.tuple #[spV 0 0, .int .i64 2]) ∧ Below w.heap.size w w') (w : World) (hT : TabW w) :
    Calls Tryd.prog 12 #[spV l u] w fun e w' => e = .returned (.tuple #[spV 0 0, .int .i64 2]) ∧ Below w.heap.size w w' := by
  have hst := run_storef Tryd.prog
  go_enter Tryd.func12, Tryd.ntmps12
  go_wp2_with (go_at_call 31; refine (ca _ (tabW_alloc (tabW_alloc hT _) _)).mono ?_; rintro e v1 ⟨rfl, b1⟩; obtain ⟨c0, c1, f0, f1, _⟩ := ((Bx.new1 _ _ _ _ _).below b1).alloc (.cells #[.float .f64 0, .float .f64 0] 24))
  have Z0 := old2 b1
  exact bodyPost_ret (v := .tuple #[spV 0 0, .int .i64 2]) (by simp [results, Tryd.results12, go_sem, c0, c1]) rfl ⟨rfl, set2 (Z0.alloc Z0.size _) (by omega) _ _⟩
set_option maxHeartbeats 2000000 in
theorem ssquare_B (l u x y lo hi : Nat) (ca : ∀ w, TabW w → Calls Tryd.prog 31 #[spV l u] w fun e w' => e = .returned (.tuple #[spV x y, .int .i64 0]) ∧ Below w.heap.size w w') (h1 : TB 32 x x 1 lo) (h2 : TB 32 y y 2 hi) (w : World) (hT : TabW w) :
    Calls Tryd.prog 12 #[spV l u] w fun e w' => e = .returned (.tuple #[spV lo hi, .int .i64 0]) ∧ Below w.heap.size w w' := by
  have hst := run_storef Tryd.prog
  go_enter Tryd.func12, Tryd.ntmps12
  go_upto_region 4 with (go_at_call 31; refine (ca _ (tabW_alloc (tabW_alloc hT _) _)).mono ?_; rintro e v1 ⟨rfl, b1⟩)
  have R0 := ((Bx.new1 w (.float .f64 0) (.float .f64 0) (.cells #[.float .f64 l, .float .f64 u] 24) 24).below b1).alloc (.cells #[.float .f64 x, .float .f64 y] 24)
  have A0 := Bx.new v1 (.float .f64 x) (.float .f64 y) 24
  have Z0 := (old2 b1).alloc (old2 b1).size (.cells #[.float .f64 x, .float .f64 y] 24)
  have T0 := tabW_below hT Z0
  have hlt := (Bx.new1 w (.float .f64 0) (.float .f64 0) (.cells #[.float .f64 l, .float .f64 u] 24) 24).below b1 |>.2.2.2.2
  generalize (v1.alloc (.cells #[.float .f64 x, .float .f64 y] 24)) = W at *
  obtain ⟨p1, hp1⟩ : ∃ p, v1.heap.size = p := ⟨_, rfl⟩
  obtain ⟨p3, hp3⟩ : ∃ p, w.heap.size + 1 = p := ⟨_, rfl⟩
  have hp13 : w.heap.size ≤ p3 := by omega
  rw [hp3] at R0 hlt ⊢
  rw [hp1] at A0 hlt ⊢
  clear b1
  have D0 := tabW_below T0 (Below.refl W.heap.size W).drew
  have m1 : ¬ p1 = p3 := by omega
  have m3 : ¬ p3 = p1 := by omega
  clear hp1 hp3
  have ka0 := A0.1
  have ka1 := A0.2.1
  go_region_held3 (fun w' => w'.cell? ⟨p1, 0, none⟩ = some (.float .f64 x) ∧ w'.cell? ⟨p1, 1, none⟩ = some (.float .f64 y)) (go_keep)
    (first
      | (go_at_call_of 32 (Value.int IntKind.i8 1); refine (h1 _ T1).mono ?_; rintro e x2 ⟨rfl, y2⟩; have z2 := z1.trans (y2.mono z1.size); obtain ⟨ka0, ka1, _⟩ := A0.below z2; obtain ⟨kr0, kr1, kr2, kr3, _⟩ := R0.below z2)
      | (go_at_call_of 32 (Value.int IntKind.i8 2); refine (h2 _ T1).mono ?_; rintro e x2 ⟨rfl, y2⟩; have z2 := z1.trans (y2.mono z1.size); obtain ⟨ka0, ka1, _⟩ := A0.below z2; obtain ⟨kr0, kr1, kr2, kr3, _⟩ := R0.below z2)
      | (go_at_call_of 32 (Value.int IntKind.i8 1); refine (h1 _ D0).mono ?_; rintro e x1 ⟨rfl, y1⟩; have z1 := udrew y1; have T1 := tabW_below T0 z1; obtain ⟨ka0, ka1, _⟩ := A0.below z1)
      | (go_at_call_of 32 (Value.int IntKind.i8 2); refine (h2 _ D0).mono ?_; rintro e x1 ⟨rfl, y1⟩; have z1 := udrew y1; have T1 := tabW_below T0 z1; obtain ⟨ka0, ka1, _⟩ := A0.below z1))
  all_goals
    go_wp2
    exact bodyPost_ret (v := .tuple #[spV lo hi, .int .i64 0]) (by simp [results, Tryd.results12, go_sem, kr0, kr1]) rfl ⟨rfl, set2 (Z0.trans (z2.mono Z0.size)) hp13 _ _⟩
set_option maxHeartbeats 1600000 in
theorem ssqrt_not (l u : Nat) (_hl : l < 18446744073709551616) (_hh : u < 18446744073709551616) (q : sRt l u = false ∨ (FloatKind.f64.format.order l 0 == some .lt) = true) (w : World) :
    Calls Tryd.prog 13 #[spV l u] w fun e w' => e = .returned (.tuple #[spV 0 0, .int .i64 2]) ∧ Below w.heap.size w w' := by
  have hst := run_storef Tryd.prog
  have r1 := fun w => sright_any l u w
  cases q1 : sRt l u <;> rw [q1] at r1 q
  · clear q
    go_enter Tryd.func13, Tryd.ntmps13
    go_wp2_with (go_at_call 14; refine (r1 _).mono ?_; rintro e v1 ⟨rfl, b1⟩; obtain ⟨a0, a1, _⟩ := ((Bx.new _ _ _ _).alloc _).below b1; obtain ⟨c0, c1, f0, f1, _⟩ := (Bx.new1 _ _ _ _ _).below b1)
    exact bodyPost_ret (v := .tuple #[spV 0 0, .int .i64 2]) (by simp [results, Tryd.results13, go_sem, c0, c1]) rfl ⟨rfl, set2 (old2 b1) (by omega) _ _⟩
  · have o : (FloatKind.f64.format.order l 0 == some .lt) = true := by
      rcases q with u | u
      · cases u
      · exact u
    clear q
    go_enter Tryd.func13, Tryd.ntmps13
    go_wp2_with (go_at_call 14; refine (r1 _).mono ?_; rintro e v1 ⟨rfl, b1⟩; obtain ⟨a0, a1, _⟩ := ((Bx.new _ _ _ _).alloc _).below b1; obtain ⟨c0, c1, f0, f1, _⟩ := (Bx.new1 _ _ _ _ _).below b1)
    exact bodyPost_ret (v := .tuple #[spV 0 0, .int .i64 2]) (by simp [results, Tryd.results13, go_sem, c0, c1]) rfl ⟨rfl, set2 (old2 b1) (by omega) _ _⟩
set_option maxHeartbeats 2000000 in
theorem ssqrt_B (l u lo hi : Nat) (_hl : l < 18446744073709551616) (_hh : u < 18446744073709551616) (q : sRt l u = true) (o : (FloatKind.f64.format.order l 0 == some .lt) = false) (h1 : TR 33 l 1 lo) (h2 : TR 33 u 2 hi) (w : World) (hT : TabW w) :
    Calls Tryd.prog 13 #[spV l u] w fun e w' => e = .returned (.tuple #[spV lo hi, .int .i64 0]) ∧ Below w.heap.size w w' := by
  have hst := run_storef Tryd.prog
  have r1 := fun w => sright_any l u w
  rw [q] at r1
  go_enter Tryd.func13, Tryd.ntmps13
  go_upto_region 3 with (go_at_call 14; refine (r1 _).mono ?_; rintro e W ⟨rfl, b1⟩; obtain ⟨ka0, ka1, _⟩ := ((Bx.new _ _ _ _).alloc _).below b1)
  have A0 := ((Bx.new w (.float .f64 l) (.float .f64 u) 24).alloc (.cells #[.float .f64 0, .float .f64 0] 24)).below b1
  have R0 := (Bx.new1 w (.float .f64 0) (.float .f64 0) (.cells #[.float .f64 l, .float .f64 u] 24) 24).below b1
  have Z0 := old2 b1
  have T0 := tabW_below hT Z0
  obtain ⟨p1, hp1⟩ : ∃ p, w.heap.size = p := ⟨_, rfl⟩
  obtain ⟨p3, hp3⟩ : ∃ p, w.heap.size + 1 = p := ⟨_, rfl⟩
  have hp13 : w.heap.size ≤ p3 := by omega
  rw [hp3] at R0 ⊢
  rw [hp1] at A0
  rw [show (Value.pointer (some ⟨w.heap.size, 0, none⟩)) = Value.pointer (some ⟨p1, 0, none⟩) by rw [hp1]]
  clear b1 ka0 ka1
  have D0 := tabW_below T0 (Below.refl W.heap.size W).drew
  have m1 : ¬ p1 = p3 := by omega
  have m3 : ¬ p3 = p1 := by omega
  clear hp1 hp3
  have ka0 := A0.1
  have ka1 := A0.2.1
  go_region_held3 (fun w' => w'.cell? ⟨p1, 0, none⟩ = some (.float .f64 l) ∧ w'.cell? ⟨p1, 1, none⟩ = some (.float .f64 u)) (go_keep)
    (first
      | (go_at_call_of 33 (Value.int IntKind.i8 1); refine (h1 _ T1).mono ?_; rintro e x2 ⟨rfl, y2⟩; have z2 := z1.trans (y2.mono z1.size); obtain ⟨ka0, ka1, _⟩ := A0.below z2; obtain ⟨kr0, kr1, kr2, kr3, _⟩ := R0.below z2)
      | (go_at_call_of 33 (Value.int IntKind.i8 2); refine (h2 _ T1).mono ?_; rintro e x2 ⟨rfl, y2⟩; have z2 := z1.trans (y2.mono z1.size); obtain ⟨ka0, ka1, _⟩ := A0.below z2; obtain ⟨kr0, kr1, kr2, kr3, _⟩ := R0.below z2)
      | (go_at_call_of 33 (Value.int IntKind.i8 1); refine (h1 _ D0).mono ?_; rintro e x1 ⟨rfl, y1⟩; have z1 := udrew y1; have T1 := tabW_below T0 z1; obtain ⟨ka0, ka1, _⟩ := A0.below z1)
      | (go_at_call_of 33 (Value.int IntKind.i8 2); refine (h2 _ D0).mono ?_; rintro e x1 ⟨rfl, y1⟩; have z1 := udrew y1; have T1 := tabW_below T0 z1; obtain ⟨ka0, ka1, _⟩ := A0.below z1))
  all_goals
    go_wp2
    exact bodyPost_ret (v := .tuple #[spV lo hi, .int .i64 0]) (by simp [results, Tryd.results13, go_sem, kr0, kr1]) rfl ⟨rfl, set2 (Z0.trans (z2.mono Z0.size)) hp13 _ _⟩
end Go.Proofs.YtbhkgjjogepgnaaDoor

namespace Go.Proofs.YtbhkgjjogepgnaaDoor
open Go.RowKit

set_option maxRecDepth 100000 in
set_option maxHeartbeats 40000000 in
theorem smeet_yes (a b c d g l : Nat) (k : Bool) (eg : Hid (g = grF a c)) (el : Hid (l = lsF b d)) (ok : (FloatKind.f64.format.order g l == some .gt) = k) (ha : a < 18446744073709551616) (hb : b < 18446744073709551616) (hc : c < 18446744073709551616) (hd : d < 18446744073709551616) (hr : (sRt a b && sRt c d) = true) (w : World) :
    Calls Tryd.prog 6 #[spV a b, spV c d] w fun e w' => e = .returned (.tuple #[if k then spV 0 0 else spV g l, .int .i64 (if k then 150 else 0)]) ∧ Below w.heap.size w w' := by
  have hst := run_storef Tryd.prog
  have cg := fun B w h => sgreatest_one a c B ha hc w h
  have cl := fun B w h => sleast_one b d B hb hd w h
  rw [← eg.out] at cg
  rw [← el.out] at cl
  clear eg el
  go_enter Tryd.func6, Tryd.ntmps6
  go_upto_region 3 with (go_at_call 24; refine (sall_two a b c d _ _ (by go_simp) (by go_simp) (by go_simp) (by go_simp) (by go_simp)).mono ?_; rw [hr]; rintro e W ⟨rfl, b1⟩)
  have A0 := ((((Bx.new w (.float .f64 a) (.float .f64 b) 24).alloc (.cells #[.float .f64 c, .float .f64 d] 24)).alloc (.cells #[.float .f64 0, .float .f64 0] 24)).alloc _).below b1
  have C0 := (((Bx.new1 w (.float .f64 c) (.float .f64 d) (.cells #[.float .f64 a, .float .f64 b] 24) 24).alloc (.cells #[.float .f64 0, .float .f64 0] 24)).alloc _).below b1
  have R0 := ((Bx.new2 w (.float .f64 0) (.float .f64 0) (.cells #[.float .f64 a, .float .f64 b] 24) (.cells #[.float .f64 c, .float .f64 d] 24) 24).alloc _).below b1
  have Z0 := old4' b1
  have zs := Z0.size
  clear b1
  obtain ⟨p1, hp1⟩ : ∃ p, w.heap.size = p := ⟨_, rfl⟩
  obtain ⟨p2, hp2⟩ : ∃ p, w.heap.size + 1 = p := ⟨_, rfl⟩
  obtain ⟨p3, hp3⟩ : ∃ p, w.heap.size + 1 + 1 = p := ⟨_, rfl⟩
  have hp13 : w.heap.size ≤ p3 := by omega
  rw [hp3] at R0 ⊢
  rw [hp2] at C0 ⊢
  rw [hp1] at A0
  rw [show (Value.pointer (some ⟨w.heap.size, 0, none⟩)) = Value.pointer (some ⟨p1, 0, none⟩) by rw [hp1]]
  clear hp1 hp2 hp3
  obtain ⟨N, hN⟩ : ∃ n, W.heap.size = n := ⟨_, rfl⟩
  have l1 := A0.2.2.2.2
  have l2 := C0.2.2.2.2
  have l3 := R0.2.2.2.2
  rw [hN] at l1 l2 l3
  have m1 : ¬ p1 = N := by omega
  have m2 : ¬ p1 = N + 1 := by omega
  have m3 : ¬ p1 = N + 1 + 1 := by omega
  have m4 : ¬ p2 = N := by omega
  have m5 : ¬ p2 = N + 1 := by omega
  have m6 : ¬ p2 = N + 1 + 1 := by omega
  have m7 : ¬ p3 = N := by omega
  have m8 : ¬ p3 = N + 1 := by omega
  have m9 : ¬ p3 = N + 1 + 1 := by omega
  have m10 : ¬ p1 = N + 2 := by omega
  have m11 : ¬ p2 = N + 2 := by omega
  have m12 : ¬ p3 = N + 2 := by omega
  clear l1 l2 l3
  have t1 : ∀ o q r, (((W.alloc o).alloc q).alloc r).cell? ⟨p1, 0, none⟩ = some (.float .f64 a) := fun o q r => (((A0.alloc o).alloc q).alloc r).1
  have t2 : ∀ o q r, (((W.alloc o).alloc q).alloc r).cell? ⟨p1, 1, none⟩ = some (.float .f64 b) := fun o q r => (((A0.alloc o).alloc q).alloc r).2.1
  have t3 : ∀ o q r, (((W.alloc o).alloc q).alloc r).cell? ⟨p2, 0, none⟩ = some (.float .f64 c) := fun o q r => (((C0.alloc o).alloc q).alloc r).1
  have t4 : ∀ o q r, (((W.alloc o).alloc q).alloc r).cell? ⟨p2, 1, none⟩ = some (.float .f64 d) := fun o q r => (((C0.alloc o).alloc q).alloc r).2.1
  have t5 : ∀ o q r, (((W.alloc o).alloc q).alloc r).cell? ⟨p3, 0, none⟩ = some (.float .f64 0) := fun o q r => (((R0.alloc o).alloc q).alloc r).1
  have t6 : ∀ o q r, (((W.alloc o).alloc q).alloc r).cell? ⟨p3, 1, none⟩ = some (.float .f64 0) := fun o q r => (((R0.alloc o).alloc q).alloc r).2.1
  have t7 : ∀ o q r, (((W.alloc o).alloc q).alloc r).frozen? ⟨p3, 0, none⟩ = false := fun o q r => (((R0.alloc o).alloc q).alloc r).2.2.1
  have t8 : ∀ o q r, (((W.alloc o).alloc q).alloc r).frozen? ⟨p3, 1, none⟩ = false := fun o q r => (((R0.alloc o).alloc q).alloc r).2.2.2.1
  obtain ⟨ka0, ka1, _⟩ := A0
  obtain ⟨kc0, kc1, _⟩ := C0
  obtain ⟨kr0, kr1, kr2, kr3, _⟩ := R0
  go_region_held3 (fun w' => w'.cell? ⟨p1, 0, none⟩ = some (.float .f64 a) ∧ w'.cell? ⟨p1, 1, none⟩ = some (.float .f64 b) ∧ w'.cell? ⟨p2, 0, none⟩ = some (.float .f64 c) ∧ w'.cell? ⟨p2, 1, none⟩ = some (.float .f64 d)) (go_keep)
    (first
      | (go_at_call 25; refine (cg _ _ (by go_simp)).mono ?_; rintro e w' ⟨rfl, rfl⟩)
      | (go_at_call 26; refine (cl _ _ (by go_simp)).mono ?_; rintro e w' ⟨rfl, rfl⟩))
  all_goals
    cases k
    · go_wp2
      exact bodyPost_ret (v := .tuple #[spV g l, .int .i64 0]) (by simp [results, Tryd.results6, go_sem, t5, t6]) rfl ⟨rfl, (by
        repeat' (first | with_reducible exact Z0 | with_reducible refine Below.drew ?_ | with_reducible refine Below.setCell ?_ ?_ _ | with_reducible refine Below.alloc ?_ ?_ _)
        all_goals first | exact hp13 | (simp [go_sem, hN]; omega))⟩
    · go_wp2
      exact bodyPost_ret (v := .tuple #[spV 0 0, .int .i64 150]) (by simp [results, Tryd.results6, go_sem, t5, t6]) rfl ⟨rfl, (by
        repeat' (first | with_reducible exact Z0 | with_reducible refine Below.drew ?_ | with_reducible refine Below.setCell ?_ ?_ _ | with_reducible refine Below.alloc ?_ ?_ _)
        all_goals first | exact hp13 | (simp [go_sem, hN]; omega))⟩
end Go.Proofs.YtbhkgjjogepgnaaDoor
