/- What span's Meet and Hull (of two) answer of right spans, call by call. -/
import Derived.Test.YtlhoidkfphellaaDoorZK
import Derived.Test.YtlhoidkfphellaaDoorZu
import Derived.Test.YtlhoidkfphellaaDoorZj
namespace Go.Proofs.YtlhoidkfphellaaDoor
open Go.RowKit

abbrev TR (f : Nat) (x : Nat) (m : Int) (r : Nat) : Prop := ∀ w, TabW w → Calls Tryd.prog f #[.float .f64 x, .int .i8 m] w fun e w' => e = .returned (.float .f64 r) ∧ Below w.heap.size w w'
def sqB (m : Int) (x : Nat) : Nat := if someB x && !sgn x then stepF (tQ x) (tS x) m else (FloatKind.f64.format.sqrt x).getD 0
theorem sqrtS_ok {x : Nat} (hx : x < 18446744073709551616) (nx : nanB x = false) (h : sgn x = false ∨ rung x = 0) : (FloatKind.f64.format.sqrt x).isSome = true := by
  show (((Ieee.double.read x).root 54).map Ieee.double.write).isSome = true
  rw [read_nn hx nx]
  cases fx : finB x
  · simp only [Bool.false_eq_true, if_false, Ieee.Datum.root]
    rcases h with h | h
    · rw [h]; rfl
    · exfalso; unfold finB at fx; simp at fx; omega
  · simp only [if_true, Ieee.Datum.root]
    by_cases m0 : mg (rung x) = 0
    · rw [if_pos m0]; rfl
    · rw [if_neg m0]
      rcases h with h | h
      · rw [h]; rfl
      · exact absurd (mg_nil.2 h) m0
theorem addB_near {x y : Nat} (hx : x < 18446744073709551616) (hy : y < 18446744073709551616) : addB 0 x y = (floatBits .add .f64 x y).getD 0 := by
  unfold addB
  cases hf : (finB x && finB y)
  · rfl
  · have fx : finB x = true := by revert hf; cases finB x <;> simp
    have fy : finB y = true := by revert hf; cases finB x <;> simp
    rw [if_pos rfl, addV_near hx hy fx fy]
    rfl
theorem divB_near (x y : Nat) : divB 0 x y = (floatBits .quo .f64 x y).getD 0 := by
  unfold divB
  cases (someB x && someB y)
  · rfl
  · rw [if_pos rfl, stepF_near]; rfl
/-- Half of a finite float is finite. -/
theorem half_fin {a q : Nat} (ha : a < 18446744073709551616) (fa : finB a = true) (hq : floatBits .quo .f64 a 4611686018427387904 = some q) : finB q = true := by
  have hr := fin_rung fa
  rw [(fbits_map a _).2.2.2, read_fin ha fa, read_two] at hq
  simp only [Ieee.Datum.quotient] at hq
  rw [if_neg (by omega)] at hq
  simp only [Option.map_some, Ieee.Format.write, Option.some.injEq] at hq
  by_cases h0 : rung a = 0
  · have e : mg (rung a) = 0 := mg_nil.2 h0
    rw [e, Nat.zero_shiftLeft] at hq
    have e2 : q = Ieee.double.word (sgn a ^^ false) 0 := by rw [← hq]; rfl
    unfold finB
    rw [e2, (word_rung _ (by omega)).1]; decide
  · have m1 : mg (rung a) ≠ 0 := fun h => h0 (mg_nil.1 h)
    have m2 : mg (rung a) < 9007199254740992 := by unfold mg; split <;> omega
    have hl := log_bd m1 m2
    have l2 : (4503599627370496 : Nat).log2 = 52 := by decide
    rw [l2] at hq
    obtain ⟨more, hmore⟩ : ∃ d, 54 + 52 - (mg (rung a)).log2 = d := ⟨_, rfl⟩
    rw [hmore] at hq
    obtain ⟨j, hj⟩ : ∃ j, more = 52 + j := ⟨more - 52, by omega⟩
    have hdvd : mg (rung a) <<< more = mg (rung a) * 2 ^ j * 4503599627370496 := by
      rw [Nat.shiftLeft_eq, hj, Nat.pow_add, show (2 : Nat) ^ 52 = 4503599627370496 by decide, Nat.mul_comm 4503599627370496, Nat.mul_assoc]
    rw [hdvd, Nat.mul_div_cancel _ (by omega), Nat.mul_mod_left] at hq
    have hb : ((0 : Nat) != 0).toNat = 0 := rfl
    rw [hb, Nat.add_zero] at hq
    have mne : 2 * (mg (rung a) * 2 ^ j) ≠ 0 := by
      have := Nat.mul_pos (Nat.pos_of_ne_zero m1) (Nat.two_pow_pos j)
      omega
    obtain ⟨k, ek, hk, c⟩ := near_anyD (sgn a ^^ false) (-1074 + ((up (rung a) : Nat) : Int) - -51 - (more : Int) - 1) (j + 2) (m := 2 * (mg (rung a) * 2 ^ j)) mne (by omega)
    rw [ek] at hq
    have hexp : (-1074 + ((up (rung a) : Nat) : Int) - -51 - (more : Int) - 1 + 1074 + ((j + 2 : Nat) : Int)).toNat = up (rung a) := by omega
    rw [hexp] at c
    have hA : 2 * (2 * (mg (rung a) * 2 ^ j) * 2 ^ up (rung a)) = val (rung a) * 2 ^ (j + 2) := by
      rw [← mg_up (rung a), Nat.pow_add]
      generalize mg (rung a) = M
      generalize 2 ^ up (rung a) = U
      generalize (2 : Nat) ^ j = J
      rw [show (2 : Nat) ^ 2 = 4 by decide]
      have e1 : 2 * (2 * (M * J) * U) = 4 * (M * J * U) := by rw [Nat.mul_assoc 2, ← Nat.mul_assoc]
      have e2 : M * U * (J * 4) = 4 * (M * J * U) := by
        rw [← Nat.mul_assoc, Nat.mul_comm _ 4, Nat.mul_assoc M U J, Nat.mul_comm U J, ← Nat.mul_assoc M]
      rw [e1, e2]
    have hle : k ≤ rung a := by
      rcases Nat.lt_or_ge (rung a) k with g | g
      · exfalso
        have hb2 := (c (rung a) hr).1 g
        have hv := Nat.mul_lt_mul_of_pos_right (val_step (rung a)) (Nat.two_pow_pos (j + 2))
        unfold aboveD at hb2
        rw [Nat.add_mul, hA] at hb2
        rcases hb2 with g | ⟨g, _⟩ <;> omega
      · exact g
    unfold finB
    rw [← hq, (word_rung _ (by omega)).1]
    exact decide_eq_true (by omega)
/-- The greater one of two sizes, as max tells it. -/
theorem run_maxf {P : Program} {x y : Nat} (hx : x ≤ 9218868437227405312) (hy : y ≤ 9218868437227405312) (ts : Array TypeId) (t : TypeId) (w : World) : (Builtin.max_ ts t #[.float .f64 x, .float .f64 y]).run P w = .ok (.float .f64 (grF x y)) w := by
  have nx : nanB x = false := nan_small hx
  have ny : nanB y = false := nan_small hy
  have h1 := rung_small (show x < 9223372036854775808 by omega)
  have h2 := rung_small (show y < 9223372036854775808 by omega)
  have s1 := sgn_small (show x < 9223372036854775808 by omega)
  have s2 := sgn_small (show y < 9223372036854775808 by omega)
  have e : Builtin.max_ ts t #[.float .f64 x, .float .f64 y] = Builtin.max2 (.float .f64 x) (.float .f64 y) := by
    unfold Builtin.max_
    simp
  rw [e]
  unfold Builtin.max2
  simp only
  have hg := grF_key x y
  have kx : key x = 2 * (x : Int) + 1 := by unfold key place; rw [nx, s1, h1]; simp
  have ky : key y = 2 * (y : Int) + 1 := by unfold key place; rw [ny, s2, h2]; simp
  rw [kx, ky] at hg
  rcases Nat.lt_trichotomy x y with h | h | h
  · have ho : FloatKind.f64.format.order x y = some .lt := by
      have := lt_num (show x < 18446744073709551616 by omega) (show y < 18446744073709551616 by omega) nx ny
      rw [place_small (by omega), place_small (by omega), decide_eq_true (by omega)] at this
      simpa using this
    have hv : grF x y = y := by rw [hg]; exact if_pos (by omega)
    rw [ho, hv]
    rfl
  · subst h
    have ho : FloatKind.f64.format.order x x = some .eq := by
      have := eq_num (show x < 18446744073709551616 by omega) (show x < 18446744073709551616 by omega) nx nx
      rw [decide_eq_true rfl] at this
      simpa using this
    have hv : grF x x = x := by rw [hg]; exact if_neg (by omega)
    rw [ho, hv]
    simp only [ite_self]
    rfl
  · have ho : FloatKind.f64.format.order x y = some .gt := by
      have := gt_num (show x < 18446744073709551616 by omega) (show y < 18446744073709551616 by omega) nx ny
      rw [place_small (by omega), place_small (by omega), decide_eq_true (by omega)] at this
      simpa using this
    have hv : grF x y = x := by rw [hg]; exact if_neg (by omega)
    rw [ho, hv]
    rfl
end Go.Proofs.YtlhoidkfphellaaDoor

namespace Go.Proofs.YtlhoidkfphellaaDoor
open Go.RowKit

theorem radd_P (m : Int) {x y : Nat} (hx : x < 18446744073709551616) (hy : y < 18446744073709551616) (h : (floatBits .add .f64 x y).isSome = true) : addB m x y < 18446744073709551616 ∧ TB 28 x y m (addB m x y) := by
  unfold addB
  cases hf : (finB x && finB y)
  · have hf' : finB x = false ∨ finB y = false := by
      revert hf; cases finB x <;> cases finB y <;> simp
    simp only [Bool.false_eq_true, if_false]
    refine ⟨?_, fun w _ => (radd_inf x y m hx hy hf' w).mono ?_⟩
    · obtain ⟨v, hv⟩ := Option.isSome_iff_exists.1 h
      rw [hv]
      exact (add_word hv).1
    · rintro e w' ⟨⟨r, rfl, hN⟩, hb⟩; exact ⟨by rw [nr_at h hN], hb⟩
  · have fx : finB x = true := by revert hf; cases finB x <;> simp
    have fy : finB y = true := by revert hf; cases finB x <;> simp
    simp only [if_true]
    refine ⟨addV_lt m hx hy fx fy, fun w _ => (radd_gen x y m hx hy fx fy w).mono ?_⟩
    rintro e w' ⟨rfl, rfl⟩; exact ⟨rfl, Below.refl _ _⟩
theorem rsqrt_P (m : Int) {x : Nat} (hx : x < 18446744073709551616) (h : (FloatKind.f64.format.sqrt x).isSome = true) : sqB m x < 18446744073709551616 ∧ TR 35 x m (sqB m x) := by
  obtain ⟨v, hv⟩ := Option.isSome_iff_exists.1 h
  unfold sqB
  cases hs : (someB x && !sgn x)
  · simp only [Bool.false_eq_true, if_false]
    refine ⟨?_, fun w _ => (rsqrt_sp x m hx hs w).mono ?_⟩
    · rw [hv]
      exact (sqrt_word hv).1
    · rintro e w' ⟨r, rfl, hN, hb⟩; exact ⟨by rw [nr_at h hN], hb⟩
  · have sx : someB x = true := by revert hs; cases someB x <;> simp
    have sg : sgn x = false := by revert hs; cases someB x <;> simp
    simp only [if_true]
    exact ⟨stepF_lt _ _ (sqrt_word (root_some hx sx sg)).1, fun w hT => rsqrt_any x m hx sx sg w hT⟩
theorem zero_outP {c d : Nat} (hc : c < 18446744073709551616) (hd : d < 18446744073709551616) (rb : sRt c d = true) (h0 : (leF c 0 && leF 0 d) = false) : rung c ≠ 0 ∧ rung d ≠ 0 := by
  obtain ⟨nc, nd, _, _, hp⟩ := rt_facts hc hd rb
  rw [leF_num hc (by omega) nc (by decide), leF_num (by omega) hd (by decide) nd, show place 0 = 0 by decide] at h0
  simp only [Bool.and_eq_false_iff, decide_eq_false_iff_not] at h0
  constructor
  · intro h
    have e : place c = 0 := by unfold place; rw [h]; cases sgn c <;> rfl
    omega
  · intro h
    have e : place d = 0 := by unfold place; rw [h]; cases sgn d <;> rfl
    omega
end Go.Proofs.YtlhoidkfphellaaDoor

namespace Go.Proofs.YtlhoidkfphellaaDoor
open Go.RowKit

theorem old4' {w w1 : World} {o p q r : Obj} (hb : Below ((((w.alloc o).alloc p).alloc q).alloc r).heap.size ((((w.alloc o).alloc p).alloc q).alloc r) w1) : Below w.heap.size w w1 := old1 (old3 hb)
end Go.Proofs.YtlhoidkfphellaaDoor

namespace Go.Proofs.YtlhoidkfphellaaDoor
open Go.RowKit

theorem neg_of (x : Nat) : Op.unary .neg (.float .f64 x) = pure (.float .f64 (negW x)) := rfl
end Go.Proofs.YtlhoidkfphellaaDoor

namespace Go.Proofs.YtlhoidkfphellaaDoor
open Go.RowKit

set_option maxHeartbeats 1600000 in
theorem ssqrt_not (l u : Nat) (_hl : l < 18446744073709551616) (_hh : u < 18446744073709551616) (q : sRt l u = false ∨ (FloatKind.f64.format.order l 0 == some .lt) = true) (w : World) :
    Calls Tryd.prog 34 #[spV l u] w fun e w' => e = .returned (.tuple #[spV 0 0, .int .i64 2]) ∧ Below w.heap.size w w' := by
  have hst := run_storef Tryd.prog
  have r1 := fun w => sright_any l u w
  cases q1 : sRt l u <;> rw [q1] at r1 q
  · clear q
    go_enter Tryd.func34, Tryd.ntmps34
    go_wp2_with (go_at_call 54; refine (r1 _).mono ?_; rintro e v1 ⟨rfl, b1⟩; obtain ⟨a0, a1, _⟩ := ((Bx.new _ _ _ _).alloc _).below b1; obtain ⟨c0, c1, f0, f1, _⟩ := (Bx.new1 _ _ _ _ _).below b1)
    exact bodyPost_ret (v := .tuple #[spV 0 0, .int .i64 2]) (by simp [results, Tryd.results34, go_sem, c0, c1]) rfl ⟨rfl, set2 (old2 b1) (by omega) _ _⟩
  · have o : (FloatKind.f64.format.order l 0 == some .lt) = true := by
      rcases q with u | u
      · cases u
      · exact u
    clear q
    go_enter Tryd.func34, Tryd.ntmps34
    go_wp2_with (go_at_call 54; refine (r1 _).mono ?_; rintro e v1 ⟨rfl, b1⟩; obtain ⟨a0, a1, _⟩ := ((Bx.new _ _ _ _).alloc _).below b1; obtain ⟨c0, c1, f0, f1, _⟩ := (Bx.new1 _ _ _ _ _).below b1)
    exact bodyPost_ret (v := .tuple #[spV 0 0, .int .i64 2]) (by simp [results, Tryd.results34, go_sem, c0, c1]) rfl ⟨rfl, set2 (old2 b1) (by omega) _ _⟩
set_option maxHeartbeats 2000000 in
theorem ssqrt_B (l u lo hi : Nat) (_hl : l < 18446744073709551616) (_hh : u < 18446744073709551616) (q : sRt l u = true) (o : (FloatKind.f64.format.order l 0 == some .lt) = false) (h1 : TR 35 l 1 lo) (h2 : TR 35 u 2 hi) (w : World) (hT : TabW w) :
    Calls Tryd.prog 34 #[spV l u] w fun e w' => e = .returned (.tuple #[spV lo hi, .int .i64 0]) ∧ Below w.heap.size w w' := by
  have hst := run_storef Tryd.prog
  have r1 := fun w => sright_any l u w
  rw [q] at r1
  go_enter Tryd.func34, Tryd.ntmps34
  go_upto_region 3 with (go_at_call 54; refine (r1 _).mono ?_; rintro e W ⟨rfl, b1⟩; obtain ⟨ka0, ka1, _⟩ := ((Bx.new _ _ _ _).alloc _).below b1)
  have A0 := ((Bx.new w (.float .f64 l) (.float .f64 u) 40).alloc (.cells #[.float .f64 0, .float .f64 0] 40)).below b1
  have R0 := (Bx.new1 w (.float .f64 0) (.float .f64 0) (.cells #[.float .f64 l, .float .f64 u] 40) 40).below b1
  have Z0 := old2 b1
  have T0 := tabW_below hT Z0
  obtain ⟨p1, hp1⟩ : ∃ p, w.heap.size = p := ⟨_, rfl⟩
  obtain ⟨p3, hp3⟩ : ∃ p, w.heap.size + 1 = p := ⟨_, rfl⟩
  have hp13 : w.heap.size ≤ p3 := by omega
  rw [hp3] at R0 ⊢
  rw [hp1] at A0
  rw [show (Value.pointer (some ⟨w.heap.size, 0, none⟩)) = Value.pointer (some ⟨p1, 0, none⟩) by rw [hp1]]
  clear b1 ka0 ka1
  have D0 := tabW_below T0 (Below.refl W.heap.size W).drew
  have m1 : ¬ p1 = p3 := by omega
  have m3 : ¬ p3 = p1 := by omega
  clear hp1 hp3
  have ka0 := A0.1
  have ka1 := A0.2.1
  go_region_held3 (fun w' => w'.cell? ⟨p1, 0, none⟩ = some (.float .f64 l) ∧ w'.cell? ⟨p1, 1, none⟩ = some (.float .f64 u)) (go_keep)
    (first
      | (go_at_call_of 35 (Value.int IntKind.i8 1); refine (h1 _ T1).mono ?_; rintro e x2 ⟨rfl, y2⟩; have z2 := z1.trans (y2.mono z1.size); obtain ⟨ka0, ka1, _⟩ := A0.below z2; obtain ⟨kr0, kr1, kr2, kr3, _⟩ := R0.below z2)
      | (go_at_call_of 35 (Value.int IntKind.i8 2); refine (h2 _ T1).mono ?_; rintro e x2 ⟨rfl, y2⟩; have z2 := z1.trans (y2.mono z1.size); obtain ⟨ka0, ka1, _⟩ := A0.below z2; obtain ⟨kr0, kr1, kr2, kr3, _⟩ := R0.below z2)
      | (go_at_call_of 35 (Value.int IntKind.i8 1); refine (h1 _ D0).mono ?_; rintro e x1 ⟨rfl, y1⟩; have z1 := udrew y1; have T1 := tabW_below T0 z1; obtain ⟨ka0, ka1, _⟩ := A0.below z1)
      | (go_at_call_of 35 (Value.int IntKind.i8 2); refine (h2 _ D0).mono ?_; rintro e x1 ⟨rfl, y1⟩; have z1 := udrew y1; have T1 := tabW_below T0 z1; obtain ⟨ka0, ka1, _⟩ := A0.below z1))
  all_goals
    go_wp2
    exact bodyPost_ret (v := .tuple #[spV lo hi, .int .i64 0]) (by simp [results, Tryd.results34, go_sem, kr0, kr1]) rfl ⟨rfl, set2 (Z0.trans (z2.mono Z0.size)) hp13 _ _⟩
end Go.Proofs.YtlhoidkfphellaaDoor

namespace Go.Proofs.YtlhoidkfphellaaDoor
open Go.RowKit

end Go.Proofs.YtlhoidkfphellaaDoor
