/- SpanTurns, whatever span it is given: the walk. (Written by genturns3.py.) -/
import Derived.Test.YtiaeannkkjhkaaaGreatDoorZk
import Derived.Test.YtiaeannkkjhkaaaGreatDoorZu
import Derived.Test.YtiaeannkkjhkaaaGreatDoorZj
namespace Go.Proofs.YtiaeannkkjhkaaaGreatDoor
open Go.RowKit

abbrev TR (f : Nat) (x : Nat) (m : Int) (r : Nat) : Prop := ∀ w, TabW w → Calls Tryz.prog f #[.float .f64 x, .int .i8 m] w fun e w' => e = .returned (.float .f64 r) ∧ Below w.heap.size w w'
def sqB (m : Int) (x : Nat) : Nat := if someB x && !sgn x then stepF (tQ x) (tS x) m else (FloatKind.f64.format.sqrt x).getD 0
theorem rsqrt_B (m : Int) {x : Nat} (hx : x < 18446744073709551616) (h : (FloatKind.f64.format.sqrt x).isSome = true) : sqB m x < 18446744073709551616 ∧ TR 60 x m (sqB m x) ∧ TR 61 x m (sqB m x) := by
  obtain ⟨v, hv⟩ := Option.isSome_iff_exists.1 h
  unfold sqB
  cases hs : (someB x && !sgn x)
  · simp only [Bool.false_eq_true, if_false]
    refine ⟨?_, fun w _ => (rsqrt_sp x m hx hs w).mono ?_, fun w _ => (dsqrt_sp x m hx hs w).mono ?_⟩
    · rw [hv]
      exact (sqrt_word hv).1
    · rintro e w' ⟨r, rfl, hN, hb⟩; exact ⟨by rw [nr_at h hN], hb⟩
    · rintro e w' ⟨r, rfl, hN, hb⟩; exact ⟨by rw [nr_at h hN], hb⟩
  · have sx : someB x = true := by revert hs; cases someB x <;> simp
    have sg : sgn x = false := by revert hs; cases someB x <;> simp
    simp only [if_true]
    exact ⟨stepF_lt _ _ (sqrt_word (root_some hx sx sg)).1, fun w hT => rsqrt_any x m hx sx sg w hT, fun w _ => dsqrt_any x m hx sx sg w⟩
theorem sqrtS_ok {x : Nat} (hx : x < 18446744073709551616) (nx : nanB x = false) (h : sgn x = false ∨ rung x = 0) : (FloatKind.f64.format.sqrt x).isSome = true := by
  show (((Ieee.double.read x).root 54).map Ieee.double.write).isSome = true
  rw [read_nn hx nx]
  cases fx : finB x
  · simp only [Bool.false_eq_true, if_false, Ieee.Datum.root]
    rcases h with h | h
    · rw [h]; rfl
    · exfalso; unfold finB at fx; simp at fx; omega
  · simp only [if_true, Ieee.Datum.root]
    by_cases m0 : mg (rung x) = 0
    · rw [if_pos m0]; rfl
    · rw [if_neg m0]
      rcases h with h | h
      · rw [h]; rfl
      · exact absurd (mg_nil.2 h) m0
theorem addB_near {x y : Nat} (hx : x < 18446744073709551616) (hy : y < 18446744073709551616) : addB 0 x y = (floatBits .add .f64 x y).getD 0 := by
  unfold addB
  cases hf : (finB x && finB y)
  · rfl
  · have fx : finB x = true := by revert hf; cases finB x <;> simp
    have fy : finB y = true := by revert hf; cases finB x <;> simp
    rw [if_pos rfl, addV_near hx hy fx fy]
    rfl
theorem divB_near (x y : Nat) : divB 0 x y = (floatBits .quo .f64 x y).getD 0 := by
  unfold divB
  cases (someB x && someB y)
  · rfl
  · rw [if_pos rfl, stepF_near]; rfl
/-- Half of a finite float is finite. -/
theorem half_fin {a q : Nat} (ha : a < 18446744073709551616) (fa : finB a = true) (hq : floatBits .quo .f64 a 4611686018427387904 = some q) : finB q = true := by
  have hr := fin_rung fa
  rw [(fbits_map a _).2.2.2, read_fin ha fa, read_two] at hq
  simp only [Ieee.Datum.quotient] at hq
  rw [if_neg (by omega)] at hq
  simp only [Option.map_some, Ieee.Format.write, Option.some.injEq] at hq
  by_cases h0 : rung a = 0
  · have e : mg (rung a) = 0 := mg_nil.2 h0
    rw [e, Nat.zero_shiftLeft] at hq
    have e2 : q = Ieee.double.word (sgn a ^^ false) 0 := by rw [← hq]; rfl
    unfold finB
    rw [e2, (word_rung _ (by omega)).1]; decide
  · have m1 : mg (rung a) ≠ 0 := fun h => h0 (mg_nil.1 h)
    have m2 : mg (rung a) < 9007199254740992 := by unfold mg; split <;> omega
    have hl := log_bd m1 m2
    have l2 : (4503599627370496 : Nat).log2 = 52 := by decide
    rw [l2] at hq
    obtain ⟨more, hmore⟩ : ∃ d, 54 + 52 - (mg (rung a)).log2 = d := ⟨_, rfl⟩
    rw [hmore] at hq
    obtain ⟨j, hj⟩ : ∃ j, more = 52 + j := ⟨more - 52, by omega⟩
    have hdvd : mg (rung a) <<< more = mg (rung a) * 2 ^ j * 4503599627370496 := by
      rw [Nat.shiftLeft_eq, hj, Nat.pow_add, show (2 : Nat) ^ 52 = 4503599627370496 by decide, Nat.mul_comm 4503599627370496, Nat.mul_assoc]
    rw [hdvd, Nat.mul_div_cancel _ (by omega), Nat.mul_mod_left] at hq
    have hb : ((0 : Nat) != 0).toNat = 0 := rfl
    rw [hb, Nat.add_zero] at hq
    have mne : 2 * (mg (rung a) * 2 ^ j) ≠ 0 := by
      have := Nat.mul_pos (Nat.pos_of_ne_zero m1) (Nat.two_pow_pos j)
      omega
    obtain ⟨k, ek, hk, c⟩ := near_anyD (sgn a ^^ false) (-1074 + ((up (rung a) : Nat) : Int) - -51 - (more : Int) - 1) (j + 2) (m := 2 * (mg (rung a) * 2 ^ j)) mne (by omega)
    rw [ek] at hq
    have hexp : (-1074 + ((up (rung a) : Nat) : Int) - -51 - (more : Int) - 1 + 1074 + ((j + 2 : Nat) : Int)).toNat = up (rung a) := by omega
    rw [hexp] at c
    have hA : 2 * (2 * (mg (rung a) * 2 ^ j) * 2 ^ up (rung a)) = val (rung a) * 2 ^ (j + 2) := by
      rw [← mg_up (rung a), Nat.pow_add]
      generalize mg (rung a) = M
      generalize 2 ^ up (rung a) = U
      generalize (2 : Nat) ^ j = J
      rw [show (2 : Nat) ^ 2 = 4 by decide]
      have e1 : 2 * (2 * (M * J) * U) = 4 * (M * J * U) := by rw [Nat.mul_assoc 2, ← Nat.mul_assoc]
      have e2 : M * U * (J * 4) = 4 * (M * J * U) := by
        rw [← Nat.mul_assoc, Nat.mul_comm _ 4, Nat.mul_assoc M U J, Nat.mul_comm U J, ← Nat.mul_assoc M]
      rw [e1, e2]
    have hle : k ≤ rung a := by
      rcases Nat.lt_or_ge (rung a) k with g | g
      · exfalso
        have hb2 := (c (rung a) hr).1 g
        have hv := Nat.mul_lt_mul_of_pos_right (val_step (rung a)) (Nat.two_pow_pos (j + 2))
        unfold aboveD at hb2
        rw [Nat.add_mul, hA] at hb2
        rcases hb2 with g | ⟨g, _⟩ <;> omega
      · exact g
    unfold finB
    rw [← hq, (word_rung _ (by omega)).1]
    exact decide_eq_true (by omega)
/-- The greater one of two sizes, as max tells it. -/
theorem run_maxf {P : Program} {x y : Nat} (hx : x ≤ 9218868437227405312) (hy : y ≤ 9218868437227405312) (ts : Array TypeId) (t : TypeId) (w : World) : (Builtin.max_ ts t #[.float .f64 x, .float .f64 y]).run P w = .ok (.float .f64 (grF x y)) w := by
  have nx : nanB x = false := nan_small hx
  have ny : nanB y = false := nan_small hy
  have h1 := rung_small (show x < 9223372036854775808 by omega)
  have h2 := rung_small (show y < 9223372036854775808 by omega)
  have s1 := sgn_small (show x < 9223372036854775808 by omega)
  have s2 := sgn_small (show y < 9223372036854775808 by omega)
  have e : Builtin.max_ ts t #[.float .f64 x, .float .f64 y] = Builtin.max2 (.float .f64 x) (.float .f64 y) := by
    unfold Builtin.max_
    simp
  rw [e]
  unfold Builtin.max2
  simp only
  have hg := grF_key x y
  have kx : key x = 2 * (x : Int) + 1 := by unfold key place; rw [nx, s1, h1]; simp
  have ky : key y = 2 * (y : Int) + 1 := by unfold key place; rw [ny, s2, h2]; simp
  rw [kx, ky] at hg
  rcases Nat.lt_trichotomy x y with h | h | h
  · have ho : FloatKind.f64.format.order x y = some .lt := by
      have := lt_num (show x < 18446744073709551616 by omega) (show y < 18446744073709551616 by omega) nx ny
      rw [place_small (by omega), place_small (by omega), decide_eq_true (by omega)] at this
      simpa using this
    have hv : grF x y = y := by rw [hg]; exact if_pos (by omega)
    rw [ho, hv]
    rfl
  · subst h
    have ho : FloatKind.f64.format.order x x = some .eq := by
      have := eq_num (show x < 18446744073709551616 by omega) (show x < 18446744073709551616 by omega) nx nx
      rw [decide_eq_true rfl] at this
      simpa using this
    have hv : grF x x = x := by rw [hg]; exact if_neg (by omega)
    rw [ho, hv]
    simp only [ite_self]
    rfl
  · have ho : FloatKind.f64.format.order x y = some .gt := by
      have := gt_num (show x < 18446744073709551616 by omega) (show y < 18446744073709551616 by omega) nx ny
      rw [place_small (by omega), place_small (by omega), decide_eq_true (by omega)] at this
      simpa using this
    have hv : grF x y = x := by rw [hg]; exact if_neg (by omega)
    rw [ho, hv]
    rfl
end Go.Proofs.YtiaeannkkjhkaaaGreatDoor

namespace Go.Proofs.YtiaeannkkjhkaaaGreatDoor
open Go.RowKit

set_option maxHeartbeats 1000000 in
theorem sleast_one (x y B : Nat) (hx : x < 18446744073709551616) (hy : y < 18446744073709551616) (w : World) (h0 : w.cell? ⟨B, 0, none⟩ = some (.float .f64 y)) :
    Calls Tryz.prog 67 #[.float .f64 x, .slice (some ⟨B, 0, none⟩) 1 1] w fun e w' => e = .returned (.float .f64 (lsF x y)) ∧ w' = w := by
  obtain ⟨u, hu⟩ : ∃ u, lsF x y = u := ⟨_, rfl⟩
  have E1 : Hid (u = lsF x y) := hu.symm
  rw [hu]
  clear hu
  have co := order_any y x hy hx
  go_enter Tryz.func67, Tryz.ntmps67
  go_wp2
  go_loopg [0, 6, 9] 1 (fun g v _ c wr => ∃ k : Nat, k ≤ 1 ∧ g = 1 - k ∧ c = .int .i64 k ∧ wr = w ∧ v = .float .f64 (if k = 0 then x else u))
  case atStart => exact ⟨0, by omega, rfl, rfl, rfl, rfl⟩
  case round =>
    obtain ⟨k, hk, hg, rfl, rfl, rfl⟩ := hrel
    have HG : Hid (gk = 1 - k) := hg
    clear hg
    rcases (show k = 0 ∨ k = 1 by omega) with rfl | rfl
    · by_cases q : ordF y x < 0
      · have hv : u = y := by rw [E1.out]; unfold lsF; rw [if_pos q]
        go_wp2_with (go_at_call 99; refine (co _).mono ?_; rintro e w' ⟨rfl, rfl⟩)
        go_roundg 0
        case measure => rw [HG.out]; omega
        case rel => exact ⟨1, by omega, rfl, rfl, rfl, by rw [← hv]; rfl⟩
      · have hv : u = x := by rw [E1.out]; unfold lsF; rw [if_neg q]
        go_wp2_with (go_at_call 99; refine (co _).mono ?_; rintro e w' ⟨rfl, rfl⟩)
        go_roundg 0
        case measure => rw [HG.out]; omega
        case rel => exact ⟨1, by omega, rfl, rfl, rfl, by rw [← hv]; rfl⟩
    · go_wp2
      go_ret
      exact ⟨rfl, rfl⟩
set_option maxHeartbeats 1000000 in
theorem sgreatest_one (x y B : Nat) (hx : x < 18446744073709551616) (hy : y < 18446744073709551616) (w : World) (h0 : w.cell? ⟨B, 0, none⟩ = some (.float .f64 y)) :
    Calls Tryz.prog 66 #[.float .f64 x, .slice (some ⟨B, 0, none⟩) 1 1] w fun e w' => e = .returned (.float .f64 (grF x y)) ∧ w' = w := by
  obtain ⟨u, hu⟩ : ∃ u, grF x y = u := ⟨_, rfl⟩
  have E1 : Hid (u = grF x y) := hu.symm
  rw [hu]
  clear hu
  have co := order_any y x hy hx
  go_enter Tryz.func66, Tryz.ntmps66
  go_wp2
  go_loopg [0, 6, 9] 1 (fun g v _ c wr => ∃ k : Nat, k ≤ 1 ∧ g = 1 - k ∧ c = .int .i64 k ∧ wr = w ∧ v = .float .f64 (if k = 0 then x else u))
  case atStart => exact ⟨0, by omega, rfl, rfl, rfl, rfl⟩
  case round =>
    obtain ⟨k, hk, hg, rfl, rfl, rfl⟩ := hrel
    have HG : Hid (gk = 1 - k) := hg
    clear hg
    rcases (show k = 0 ∨ k = 1 by omega) with rfl | rfl
    · by_cases q : 0 < ordF y x
      · have hv : u = y := by rw [E1.out]; unfold grF; rw [if_pos q]
        go_wp2_with (go_at_call 99; refine (co _).mono ?_; rintro e w' ⟨rfl, rfl⟩)
        go_roundg 0
        case measure => rw [HG.out]; omega
        case rel => exact ⟨1, by omega, rfl, rfl, rfl, by rw [← hv]; rfl⟩
      · have hv : u = x := by rw [E1.out]; unfold grF; rw [if_neg q]
        go_wp2_with (go_at_call 99; refine (co _).mono ?_; rintro e w' ⟨rfl, rfl⟩)
        go_roundg 0
        case measure => rw [HG.out]; omega
        case rel => exact ⟨1, by omega, rfl, rfl, rfl, by rw [← hv]; rfl⟩
    · go_wp2
      go_ret
      exact ⟨rfl, rfl⟩
theorem old4' {w w1 : World} {o p q r : Obj} (hb : Below ((((w.alloc o).alloc p).alloc q).alloc r).heap.size ((((w.alloc o).alloc p).alloc q).alloc r) w1) : Below w.heap.size w w1 := old1 (old3 hb)
set_option maxHeartbeats 1600000 in
theorem sin_any (a b c d : Nat) (w : World) :
    Calls Tryz.prog 35 #[spV a b, spV c d] w fun e w' => e = .returned (.bool (sRt a b && sRt c d && leF c a && leF b d)) ∧ Below w.heap.size w w' := by
  have e1 : (FloatKind.f64.format.order c a == some .lt || FloatKind.f64.format.order c a == some .eq) = leF c a := rfl
  have e2 : (FloatKind.f64.format.order b d == some .lt || FloatKind.f64.format.order b d == some .eq) = leF b d := rfl
  obtain ⟨r, hr⟩ : ∃ r, (sRt a b && sRt c d) = r := ⟨_, rfl⟩
  rw [hr]
  cases r
  · go_enter Tryz.func35, Tryz.ntmps35
    go_wp2_with (go_at_call 42; refine (sall_two a b c d _ _ (by go_simp) (by go_simp) (by go_simp) (by go_simp) (by go_simp)).mono ?_; rw [hr]; rintro e w1 ⟨rfl, b1⟩)
    go_ret
    exact ⟨rfl, old3 b1⟩
  · cases q1 : leF c a <;> rw [q1] at e1 <;> cases q2 : leF b d <;> rw [q2] at e2 <;>
      (go_enter Tryz.func35, Tryz.ntmps35
       go_wp2_with (go_at_call 42; refine (sall_two a b c d _ _ (by go_simp) (by go_simp) (by go_simp) (by go_simp) (by go_simp)).mono ?_; rw [hr]; rintro e w1 ⟨rfl, b1⟩; obtain ⟨a0, a1, _⟩ := (((Bx.new _ _ _ _).alloc _).alloc _).below b1; obtain ⟨d0, d1, _⟩ := ((Bx.new1 _ _ _ _ _).alloc _).below b1)
       go_ret
       exact ⟨rfl, old3 b1⟩)
set_option maxHeartbeats 1600000 in
theorem smeet_not (a b c d : Nat) (hr : (sRt a b && sRt c d) = false) (w : World) :
    Calls Tryz.prog 31 #[spV a b, spV c d] w fun e w' => e = .returned (.tuple #[spV 0 0, .int .i64 2]) ∧ Below w.heap.size w w' := by
  have hst := run_storef Tryz.prog
  go_enter Tryz.func31, Tryz.ntmps31
  go_wp2_with (go_at_call 42; refine (sall_two a b c d _ _ (by go_simp) (by go_simp) (by go_simp) (by go_simp) (by go_simp)).mono ?_; rw [hr]; rintro e w1 ⟨rfl, b1⟩; obtain ⟨c0, c1, f0, f1, _⟩ := ((Bx.new2 _ _ _ _ _ _).alloc _).below b1)
  exact bodyPost_ret (v := .tuple #[spV 0 0, .int .i64 2]) (by simp [results, Tryz.results31, go_sem, c0, c1]) rfl ⟨rfl, set2 (old4' b1) (by omega) _ _⟩
end Go.Proofs.YtiaeannkkjhkaaaGreatDoor

namespace Go.Proofs.YtiaeannkkjhkaaaGreatDoor
open Go.RowKit

theorem neg_of (x : Nat) : Op.unary .neg (.float .f64 x) = pure (.float .f64 (negW x)) := rfl
set_option maxHeartbeats 400000 in
theorem rsize_any (x : Nat) (hx : x < 18446744073709551616) (nx : nanB x = false) (w : World) :
    Calls Tryz.prog 57 #[.float .f64 x] w fun e w' => e = .returned (.float .f64 (rung x)) ∧ w' = w := by
  have hu := neg_of
  have z := zero_eq hx
  have o := zero_lt hx
  rw [nx] at o
  simp only [Bool.not_false, Bool.true_and] at o
  cases q0 : (rung x == 0) <;> rw [q0] at z
  · have r0 : rung x ≠ 0 := by simpa using q0
    rcases word_two hx with ⟨e, s⟩ | ⟨e, s⟩
    · have ho : decide (place x < 0) = false := by unfold place; rw [s]; simp
      rw [ho] at o
      have E : Hid (rung x = x) := e.symm
      clear e
      go_enter Tryz.func57, Tryz.ntmps57
      go_wp2
      go_ret
      exact ⟨by rw [E.out]; rfl, rfl⟩
    · have ho : decide (place x < 0) = true := by unfold place; rw [s]; simp; omega
      rw [ho] at o
      have E : Hid (rung x = negW x) := (show rung x = negW x by
        have u := negW_neg (r := rung x) (by have := rung_lt x; omega)
        rw [← e] at u
        exact u.symm)
      clear e
      go_enter Tryz.func57, Tryz.ntmps57
      go_wp2
      go_ret
      exact ⟨by rw [E.out]; rfl, rfl⟩
  · have E : Hid (rung x = 0) := (show rung x = 0 by simpa using q0)
    go_enter Tryz.func57, Tryz.ntmps57
    go_wp2
    go_ret
    exact ⟨by rw [E.out]; rfl, rfl⟩
set_option maxHeartbeats 1600000 in
theorem ssize_any (l u : Nat) (hl : l < 18446744073709551616) (hh : u < 18446744073709551616) (w : World) :
    Calls Tryz.prog 56 #[spV l u] w fun e w' => e = .returned (.float .f64 (grF (rung l) (rung u))) ∧ Below w.heap.size w w' := by
  have ca := abs_any l hl
  have cb := abs_any u hh
  have ra : rung l < 18446744073709551616 := by have := rung_lt l; omega
  have rb : rung u < 18446744073709551616 := by have := rung_lt u; omega
  generalize rung l = x at *
  generalize rung u = y at *
  go_enter Tryz.func56, Tryz.ntmps56
  go_wp2
  go_region_held3 (fun w' => w'.cell? ⟨w.heap.size, 0, none⟩ = some (.float .f64 l) ∧ w'.cell? ⟨w.heap.size, 1, none⟩ = some (.float .f64 u)) (go_keep)
    (first
      | (go_at_call_of 82 (Value.float FloatKind.f64 l); refine (ca _).mono ?_; rintro e w' ⟨rfl, rfl⟩)
      | (go_at_call_of 82 (Value.float FloatKind.f64 u); refine (cb _).mono ?_; rintro e w' ⟨rfl, rfl⟩)
      | (go_at_call 66; refine (sgreatest_one _ _ _ ra rb _ (by go_simp)).mono ?_; rintro e w' ⟨rfl, rfl⟩))
  all_goals
    go_wp2
    go_ret
    exact ⟨rfl, by first | exact ((Below.refl _ _).alloc (Nat.le_refl _) _).drew.alloc (by simp) _ | exact (((Below.refl _ _).alloc (Nat.le_refl _) _).alloc (by simp) _).drew⟩
set_option maxHeartbeats 800000 in
theorem sneg_any (l u : Nat) (w : World) :
    Calls Tryz.prog 16 #[spV l u] w fun e w' => e = .returned (.tuple #[if sRt l u then spV (negW u) (negW l) else spV 0 0, .int .i64 (if sRt l u then 0 else 2)]) ∧ Below w.heap.size w w' := by
  have hst := run_storef Tryz.prog
  have hu := neg_of
  have r1 := fun w => sright_any l u w
  cases q : sRt l u <;> rw [q] at r1
  · go_enter Tryz.func16, Tryz.ntmps16
    go_wp2_with (go_at_call 55; refine (r1 _).mono ?_; rintro e v1 ⟨rfl, b1⟩; obtain ⟨a0, a1, _⟩ := ((Bx.new _ _ _ _).alloc _).below b1; obtain ⟨c0, c1, f0, f1, _⟩ := (Bx.new1 _ _ _ _ _).below b1)
    exact bodyPost_ret (v := .tuple #[spV 0 0, .int .i64 2]) (by simp [results, Tryz.results16, go_sem, c0, c1]) rfl ⟨rfl, set2 (old2 b1) (by omega) _ _⟩
  · go_enter Tryz.func16, Tryz.ntmps16
    go_wp2_with (go_at_call 55; refine (r1 _).mono ?_; rintro e v1 ⟨rfl, b1⟩; obtain ⟨a0, a1, _⟩ := ((Bx.new _ _ _ _).alloc _).below b1; obtain ⟨c0, c1, f0, f1, _⟩ := (Bx.new1 _ _ _ _ _).below b1)
    exact bodyPost_ret (v := .tuple #[spV (negW u) (negW l), .int .i64 0]) (by simp [results, Tryz.results16, go_sem, c0, c1]) rfl ⟨rfl, set2 (old2 b1) (by omega) _ _⟩
set_option maxHeartbeats 800000 in
theorem rneg_any (l u : Nat) (hl : l < 18446744073709551616) (hh : u < 18446744073709551616) (w : World) :
    Calls Tryz.prog 17 #[spV l u] w fun e w' => e = .returned (.tuple #[if sRt l u then spV (negW u) (negW l) else spV 0 0, .int .i64 (if sRt l u then 0 else 2)]) ∧ Below w.heap.size w w' := by
  have hst := run_storef Tryz.prog
  have hu := neg_of
  have r1 := fun w => rright_any l u hl hh w
  cases q : sRt l u <;> rw [q] at r1
  · go_enter Tryz.func17, Tryz.ntmps17
    go_wp2_with (go_at_call 44; refine (r1 _).mono ?_; rintro e v1 ⟨rfl, b1⟩; obtain ⟨a0, a1, _⟩ := ((Bx.new _ _ _ _).alloc _).below b1; obtain ⟨c0, c1, f0, f1, _⟩ := (Bx.new1 _ _ _ _ _).below b1)
    exact bodyPost_ret (v := .tuple #[spV 0 0, .int .i64 2]) (by simp [results, Tryz.results17, go_sem, c0, c1]) rfl ⟨rfl, set2 (old2 b1) (by omega) _ _⟩
  · go_enter Tryz.func17, Tryz.ntmps17
    go_wp2_with (go_at_call 44; refine (r1 _).mono ?_; rintro e v1 ⟨rfl, b1⟩; obtain ⟨a0, a1, _⟩ := ((Bx.new _ _ _ _).alloc _).below b1; obtain ⟨c0, c1, f0, f1, _⟩ := (Bx.new1 _ _ _ _ _).below b1)
    exact bodyPost_ret (v := .tuple #[spV (negW u) (negW l), .int .i64 0]) (by simp [results, Tryz.results17, go_sem, c0, c1]) rfl ⟨rfl, set2 (old2 b1) (by omega) _ _⟩
set_option maxHeartbeats 1600000 in
theorem sabs_not (l u : Nat) (_hl : l < 18446744073709551616) (_hh : u < 18446744073709551616) (q : sRt l u = false) (w : World) :
    Calls Tryz.prog 18 #[spV l u] w fun e w' => e = .returned (.tuple #[spV 0 0, .int .i64 2]) ∧ Below w.heap.size w w' := by
  have hst := run_storef Tryz.prog
  have r1 := fun w => sright_any l u w
  rw [q] at r1
  go_enter Tryz.func18, Tryz.ntmps18
  go_wp2_with (go_at_call 55; refine (r1 _).mono ?_; rintro e v1 ⟨rfl, b1⟩; obtain ⟨a0, a1, _⟩ := ((Bx.new _ _ _ _).alloc _).below b1; have R1 := (Bx.new1 _ _ _ _ _).below b1; obtain ⟨c0, c1, f0, f1, _⟩ := (Bx.new1 _ _ _ _ _).below b1)
  exact bodyPost_ret (v := .tuple #[spV 0 0, .int .i64 2]) (by simp [results, Tryz.results18, go_sem, c0, c1]) rfl ⟨rfl, set2 (old2 b1) (by omega) _ _⟩
set_option maxHeartbeats 1600000 in
theorem sabs_above (l u : Nat) (_hl : l < 18446744073709551616) (_hh : u < 18446744073709551616) (q : sRt l u = true) (o : (FloatKind.f64.format.order l 0 == some .gt) = true) (w : World) :
    Calls Tryz.prog 18 #[spV l u] w fun e w' => e = .returned (.tuple #[spV l u, .int .i64 0]) ∧ Below w.heap.size w w' := by
  have hst := run_storef Tryz.prog
  have r1 := fun w => sright_any l u w
  rw [q] at r1
  go_enter Tryz.func18, Tryz.ntmps18
  go_wp2_with (go_at_call 55; refine (r1 _).mono ?_; rintro e v1 ⟨rfl, b1⟩; obtain ⟨a0, a1, _⟩ := ((Bx.new _ _ _ _).alloc _).below b1; have R1 := (Bx.new1 _ _ _ _ _).below b1; obtain ⟨c0, c1, f0, f1, _⟩ := (Bx.new1 _ _ _ _ _).below b1)
  exact bodyPost_ret (v := .tuple #[spV l u, .int .i64 0]) (by simp [results, Tryz.results18, go_sem, c0, c1]) rfl ⟨rfl, set2 (old2 b1) (by omega) _ _⟩
set_option maxHeartbeats 1600000 in
theorem sabs_below (l u : Nat) (_hl : l < 18446744073709551616) (_hh : u < 18446744073709551616) (q : sRt l u = true) (o : (FloatKind.f64.format.order l 0 == some .gt) = false) (p : (FloatKind.f64.format.order u 0 == some .lt) = true) (w : World) :
    Calls Tryz.prog 18 #[spV l u] w fun e w' => e = .returned (.tuple #[spV (negW u) (negW l), .int .i64 0]) ∧ Below w.heap.size w w' := by
  have hst := run_storef Tryz.prog
  have r1 := fun w => sright_any l u w
  have n1 := fun w => sneg_any l u w
  rw [q] at r1 n1
  simp only [if_true] at n1
  go_enter Tryz.func18, Tryz.ntmps18
  go_wp2_with (first | (go_at_call 55; refine (r1 _).mono ?_; rintro e v1 ⟨rfl, b1⟩; obtain ⟨a0, a1, _⟩ := ((Bx.new _ _ _ _).alloc _).below b1; have R1 := (Bx.new1 _ _ _ _ _).below b1; obtain ⟨c0, c1, f0, f1, _⟩ := (Bx.new1 _ _ _ _ _).below b1) | (go_at_call 16; refine (n1 _).mono ?_; rintro e v2 ⟨rfl, b2⟩; obtain ⟨c0, c1, f0, f1, _⟩ := R1.below b2))
  exact bodyPost_ret (v := .tuple #[spV (negW u) (negW l), .int .i64 0]) (by simp [results, Tryz.results18, go_sem, c0, c1]) rfl ⟨rfl, set2 ((old2 b1).trans (b2.mono (old2 b1).size)) (by omega) _ _⟩
set_option maxHeartbeats 1600000 in
theorem sabs_mid (l u : Nat) (hl : l < 18446744073709551616) (hh : u < 18446744073709551616) (q : sRt l u = true) (o : (FloatKind.f64.format.order l 0 == some .gt) = false) (p : (FloatKind.f64.format.order u 0 == some .lt) = false) (w : World) :
    Calls Tryz.prog 18 #[spV l u] w fun e w' => e = .returned (.tuple #[spV 0 (grF (rung l) (rung u)), .int .i64 0]) ∧ Below w.heap.size w w' := by
  have hst := run_storef Tryz.prog
  have r1 := fun w => sright_any l u w
  have n1 := fun w => ssize_any l u hl hh w
  rw [q] at r1
  go_enter Tryz.func18, Tryz.ntmps18
  go_wp2_with (first | (go_at_call 55; refine (r1 _).mono ?_; rintro e v1 ⟨rfl, b1⟩; obtain ⟨a0, a1, _⟩ := ((Bx.new _ _ _ _).alloc _).below b1; have R1 := (Bx.new1 _ _ _ _ _).below b1; obtain ⟨c0, c1, f0, f1, _⟩ := (Bx.new1 _ _ _ _ _).below b1) | (go_at_call 56; refine (n1 _).mono ?_; rintro e v2 ⟨rfl, b2⟩; obtain ⟨c0, c1, f0, f1, _⟩ := R1.below b2))
  exact bodyPost_ret (v := .tuple #[spV 0 (grF (rung l) (rung u)), .int .i64 0]) (by simp [results, Tryz.results18, go_sem, c0, c1]) rfl ⟨rfl, set2 ((old2 b1).trans (b2.mono (old2 b1).size)) (by omega) _ _⟩
set_option maxHeartbeats 1600000 in
theorem rabs_not (l u : Nat) (hl : l < 18446744073709551616) (hh : u < 18446744073709551616) (q : sRt l u = false) (w : World) :
    Calls Tryz.prog 19 #[spV l u] w fun e w' => e = .returned (.tuple #[spV 0 0, .int .i64 2]) ∧ Below w.heap.size w w' := by
  have hst := run_storef Tryz.prog
  have r1 := fun w => rright_any l u hl hh w
  rw [q] at r1
  go_enter Tryz.func19, Tryz.ntmps19
  go_wp2_with (go_at_call 44; refine (r1 _).mono ?_; rintro e v1 ⟨rfl, b1⟩; obtain ⟨a0, a1, _⟩ := ((Bx.new _ _ _ _).alloc _).below b1; have R1 := (Bx.new1 _ _ _ _ _).below b1; obtain ⟨c0, c1, f0, f1, _⟩ := (Bx.new1 _ _ _ _ _).below b1)
  exact bodyPost_ret (v := .tuple #[spV 0 0, .int .i64 2]) (by simp [results, Tryz.results19, go_sem, c0, c1]) rfl ⟨rfl, set2 (old2 b1) (by omega) _ _⟩
set_option maxHeartbeats 1600000 in
theorem rabs_above (l u : Nat) (hl : l < 18446744073709551616) (hh : u < 18446744073709551616) (q : sRt l u = true) (o : (FloatKind.f64.format.order l 0 == some .gt) = true) (w : World) :
    Calls Tryz.prog 19 #[spV l u] w fun e w' => e = .returned (.tuple #[spV l u, .int .i64 0]) ∧ Below w.heap.size w w' := by
  have hst := run_storef Tryz.prog
  have r1 := fun w => rright_any l u hl hh w
  rw [q] at r1
  go_enter Tryz.func19, Tryz.ntmps19
  go_wp2_with (go_at_call 44; refine (r1 _).mono ?_; rintro e v1 ⟨rfl, b1⟩; obtain ⟨a0, a1, _⟩ := ((Bx.new _ _ _ _).alloc _).below b1; have R1 := (Bx.new1 _ _ _ _ _).below b1; obtain ⟨c0, c1, f0, f1, _⟩ := (Bx.new1 _ _ _ _ _).below b1)
  exact bodyPost_ret (v := .tuple #[spV l u, .int .i64 0]) (by simp [results, Tryz.results19, go_sem, c0, c1]) rfl ⟨rfl, set2 (old2 b1) (by omega) _ _⟩
set_option maxHeartbeats 1600000 in
theorem rabs_below (l u : Nat) (hl : l < 18446744073709551616) (hh : u < 18446744073709551616) (q : sRt l u = true) (o : (FloatKind.f64.format.order l 0 == some .gt) = false) (p : (FloatKind.f64.format.order u 0 == some .lt) = true) (w : World) :
    Calls Tryz.prog 19 #[spV l u] w fun e w' => e = .returned (.tuple #[spV (negW u) (negW l), .int .i64 0]) ∧ Below w.heap.size w w' := by
  have hst := run_storef Tryz.prog
  have r1 := fun w => rright_any l u hl hh w
  have n1 := fun w => rneg_any l u hl hh w
  rw [q] at r1 n1
  simp only [if_true] at n1
  go_enter Tryz.func19, Tryz.ntmps19
  go_wp2_with (first | (go_at_call 44; refine (r1 _).mono ?_; rintro e v1 ⟨rfl, b1⟩; obtain ⟨a0, a1, _⟩ := ((Bx.new _ _ _ _).alloc _).below b1; have R1 := (Bx.new1 _ _ _ _ _).below b1; obtain ⟨c0, c1, f0, f1, _⟩ := (Bx.new1 _ _ _ _ _).below b1) | (go_at_call 17; refine (n1 _).mono ?_; rintro e v2 ⟨rfl, b2⟩; obtain ⟨c0, c1, f0, f1, _⟩ := R1.below b2))
  exact bodyPost_ret (v := .tuple #[spV (negW u) (negW l), .int .i64 0]) (by simp [results, Tryz.results19, go_sem, c0, c1]) rfl ⟨rfl, set2 ((old2 b1).trans (b2.mono (old2 b1).size)) (by omega) _ _⟩
set_option maxHeartbeats 1600000 in
theorem rabs_mid (l u : Nat) (hl : l < 18446744073709551616) (hh : u < 18446744073709551616) (nl : nanB l = false) (nh : nanB u = false) (q : sRt l u = true) (o : (FloatKind.f64.format.order l 0 == some .gt) = false) (p : (FloatKind.f64.format.order u 0 == some .lt) = false) (w : World) :
    Calls Tryz.prog 19 #[spV l u] w fun e w' => e = .returned (.tuple #[spV 0 (grF (rung l) (rung u)), .int .i64 0]) ∧ Below w.heap.size w w' := by
  have hst := run_storef Tryz.prog
  have r1 := fun w => rright_any l u hl hh w
  have s1 := fun w => rsize_any l hl nl w
  have s2 := fun w => rsize_any u hh nh w
  have hmx := fun ts t w => run_maxf (P := Tryz.prog) (x := rung l) (y := rung u) (by unfold nanB at nl; simpa using nl) (by unfold nanB at nh; simpa using nh) ts t w
  rw [q] at r1
  generalize grF (rung l) (rung u) = v at *
  generalize rung l = x at *
  generalize rung u = y at *
  go_enter Tryz.func19, Tryz.ntmps19
  go_upto_region 7 with (go_at_call 44; refine (r1 _).mono ?_; rintro e v1 ⟨rfl, b1⟩; obtain ⟨a0, a1, _⟩ := ((Bx.new _ _ _ _).alloc _).below b1; have R1 := (Bx.new1 _ _ _ _ _).below b1; obtain ⟨c0, c1, f0, f1, _⟩ := (Bx.new1 _ _ _ _ _).below b1)
  have Z0 := old2 b1
  clear b1
  have l1 := R1.2.2.2.2
  have l2 : w.heap.size < v1.heap.size := by omega
  have m1 : ¬ w.heap.size = w.heap.size + 1 := by omega
  have m2 : ¬ w.heap.size + 1 = w.heap.size := by omega
  go_region_held3 (fun w' => w'.cell? ⟨w.heap.size, 0, none⟩ = some (.float .f64 l) ∧ w'.cell? ⟨w.heap.size, 1, none⟩ = some (.float .f64 u)) (go_keep)
    (first
      | (go_at_call_of 57 (Value.float FloatKind.f64 l); refine (s1 _).mono ?_; rintro e w' ⟨rfl, rfl⟩)
      | (go_at_call_of 57 (Value.float FloatKind.f64 u); refine (s2 _).mono ?_; rintro e w' ⟨rfl, rfl⟩))
  all_goals
    go_wp2
    exact bodyPost_ret (v := .tuple #[spV 0 v, .int .i64 0]) (by simp [results, Tryz.results19, go_sem, c0, c1]) rfl ⟨rfl, set2 Z0.drew (by omega) _ _⟩
end Go.Proofs.YtiaeannkkjhkaaaGreatDoor

namespace Go.Proofs.YtiaeannkkjhkaaaGreatDoor
open Go.RowKit

set_option maxHeartbeats 1600000 in
theorem ssquare_not (l u : Nat) (ca : ∀ w, TabW w → Calls Tryz.prog 18 #[spV l u] w fun e w' => e = .returned (.tuple #[spV 0 0, .int .i64 2]) ∧ Below w.heap.size w w') (w : World) (hT : TabW w) :
    Calls Tryz.prog 20 #[spV l u] w fun e w' => e = .returned (.tuple #[spV 0 0, .int .i64 2]) ∧ Below w.heap.size w w' := by
  have hst := run_storef Tryz.prog
  go_enter Tryz.func20, Tryz.ntmps20
  go_wp2_with (go_at_call 18; refine (ca _ (tabW_alloc (tabW_alloc hT _) _)).mono ?_; rintro e v1 ⟨rfl, b1⟩; obtain ⟨c0, c1, f0, f1, _⟩ := ((Bx.new1 _ _ _ _ _).below b1).alloc (.cells #[.float .f64 0, .float .f64 0] 24))
  have Z0 := old2 b1
  exact bodyPost_ret (v := .tuple #[spV 0 0, .int .i64 2]) (by simp [results, Tryz.results20, go_sem, c0, c1]) rfl ⟨rfl, set2 (Z0.alloc Z0.size _) (by omega) _ _⟩
set_option maxHeartbeats 2000000 in
theorem ssquare_B (l u x y lo hi : Nat) (ca : ∀ w, TabW w → Calls Tryz.prog 18 #[spV l u] w fun e w' => e = .returned (.tuple #[spV x y, .int .i64 0]) ∧ Below w.heap.size w w') (h1 : TB 58 x x 1 lo) (h2 : TB 58 y y 2 hi) (w : World) (hT : TabW w) :
    Calls Tryz.prog 20 #[spV l u] w fun e w' => e = .returned (.tuple #[spV lo hi, .int .i64 0]) ∧ Below w.heap.size w w' := by
  have hst := run_storef Tryz.prog
  go_enter Tryz.func20, Tryz.ntmps20
  go_upto_region 4 with (go_at_call 18; refine (ca _ (tabW_alloc (tabW_alloc hT _) _)).mono ?_; rintro e v1 ⟨rfl, b1⟩)
  have R0 := ((Bx.new1 w (.float .f64 0) (.float .f64 0) (.cells #[.float .f64 l, .float .f64 u] 24) 24).below b1).alloc (.cells #[.float .f64 x, .float .f64 y] 24)
  have A0 := Bx.new v1 (.float .f64 x) (.float .f64 y) 24
  have Z0 := (old2 b1).alloc (old2 b1).size (.cells #[.float .f64 x, .float .f64 y] 24)
  have T0 := tabW_below hT Z0
  have hlt := (Bx.new1 w (.float .f64 0) (.float .f64 0) (.cells #[.float .f64 l, .float .f64 u] 24) 24).below b1 |>.2.2.2.2
  generalize (v1.alloc (.cells #[.float .f64 x, .float .f64 y] 24)) = W at *
  obtain ⟨p1, hp1⟩ : ∃ p, v1.heap.size = p := ⟨_, rfl⟩
  obtain ⟨p3, hp3⟩ : ∃ p, w.heap.size + 1 = p := ⟨_, rfl⟩
  have hp13 : w.heap.size ≤ p3 := by omega
  rw [hp3] at R0 hlt ⊢
  rw [hp1] at A0 hlt ⊢
  clear b1
  have D0 := tabW_below T0 (Below.refl W.heap.size W).drew
  have m1 : ¬ p1 = p3 := by omega
  have m3 : ¬ p3 = p1 := by omega
  clear hp1 hp3
  have ka0 := A0.1
  have ka1 := A0.2.1
  go_region_held3 (fun w' => w'.cell? ⟨p1, 0, none⟩ = some (.float .f64 x) ∧ w'.cell? ⟨p1, 1, none⟩ = some (.float .f64 y)) (go_keep)
    (first
      | (go_at_call_of 58 (Value.int IntKind.i8 1); refine (h1 _ T1).mono ?_; rintro e x2 ⟨rfl, y2⟩; have z2 := z1.trans (y2.mono z1.size); obtain ⟨ka0, ka1, _⟩ := A0.below z2; obtain ⟨kr0, kr1, kr2, kr3, _⟩ := R0.below z2)
      | (go_at_call_of 58 (Value.int IntKind.i8 2); refine (h2 _ T1).mono ?_; rintro e x2 ⟨rfl, y2⟩; have z2 := z1.trans (y2.mono z1.size); obtain ⟨ka0, ka1, _⟩ := A0.below z2; obtain ⟨kr0, kr1, kr2, kr3, _⟩ := R0.below z2)
      | (go_at_call_of 58 (Value.int IntKind.i8 1); refine (h1 _ D0).mono ?_; rintro e x1 ⟨rfl, y1⟩; have z1 := udrew y1; have T1 := tabW_below T0 z1; obtain ⟨ka0, ka1, _⟩ := A0.below z1)
      | (go_at_call_of 58 (Value.int IntKind.i8 2); refine (h2 _ D0).mono ?_; rintro e x1 ⟨rfl, y1⟩; have z1 := udrew y1; have T1 := tabW_below T0 z1; obtain ⟨ka0, ka1, _⟩ := A0.below z1))
  all_goals
    go_wp2
    exact bodyPost_ret (v := .tuple #[spV lo hi, .int .i64 0]) (by simp [results, Tryz.results20, go_sem, kr0, kr1]) rfl ⟨rfl, set2 (Z0.trans (z2.mono Z0.size)) hp13 _ _⟩
set_option maxHeartbeats 1600000 in
theorem ssqrt_not (l u : Nat) (_hl : l < 18446744073709551616) (_hh : u < 18446744073709551616) (q : sRt l u = false ∨ (FloatKind.f64.format.order l 0 == some .lt) = true) (w : World) :
    Calls Tryz.prog 22 #[spV l u] w fun e w' => e = .returned (.tuple #[spV 0 0, .int .i64 2]) ∧ Below w.heap.size w w' := by
  have hst := run_storef Tryz.prog
  have r1 := fun w => sright_any l u w
  cases q1 : sRt l u <;> rw [q1] at r1 q
  · clear q
    go_enter Tryz.func22, Tryz.ntmps22
    go_wp2_with (go_at_call 55; refine (r1 _).mono ?_; rintro e v1 ⟨rfl, b1⟩; obtain ⟨a0, a1, _⟩ := ((Bx.new _ _ _ _).alloc _).below b1; obtain ⟨c0, c1, f0, f1, _⟩ := (Bx.new1 _ _ _ _ _).below b1)
    exact bodyPost_ret (v := .tuple #[spV 0 0, .int .i64 2]) (by simp [results, Tryz.results22, go_sem, c0, c1]) rfl ⟨rfl, set2 (old2 b1) (by omega) _ _⟩
  · have o : (FloatKind.f64.format.order l 0 == some .lt) = true := by
      rcases q with u | u
      · cases u
      · exact u
    clear q
    go_enter Tryz.func22, Tryz.ntmps22
    go_wp2_with (go_at_call 55; refine (r1 _).mono ?_; rintro e v1 ⟨rfl, b1⟩; obtain ⟨a0, a1, _⟩ := ((Bx.new _ _ _ _).alloc _).below b1; obtain ⟨c0, c1, f0, f1, _⟩ := (Bx.new1 _ _ _ _ _).below b1)
    exact bodyPost_ret (v := .tuple #[spV 0 0, .int .i64 2]) (by simp [results, Tryz.results22, go_sem, c0, c1]) rfl ⟨rfl, set2 (old2 b1) (by omega) _ _⟩
set_option maxHeartbeats 2000000 in
theorem ssqrt_B (l u lo hi : Nat) (_hl : l < 18446744073709551616) (_hh : u < 18446744073709551616) (q : sRt l u = true) (o : (FloatKind.f64.format.order l 0 == some .lt) = false) (h1 : TR 60 l 1 lo) (h2 : TR 60 u 2 hi) (w : World) (hT : TabW w) :
    Calls Tryz.prog 22 #[spV l u] w fun e w' => e = .returned (.tuple #[spV lo hi, .int .i64 0]) ∧ Below w.heap.size w w' := by
  have hst := run_storef Tryz.prog
  have r1 := fun w => sright_any l u w
  rw [q] at r1
  go_enter Tryz.func22, Tryz.ntmps22
  go_upto_region 3 with (go_at_call 55; refine (r1 _).mono ?_; rintro e W ⟨rfl, b1⟩; obtain ⟨ka0, ka1, _⟩ := ((Bx.new _ _ _ _).alloc _).below b1)
  have A0 := ((Bx.new w (.float .f64 l) (.float .f64 u) 24).alloc (.cells #[.float .f64 0, .float .f64 0] 24)).below b1
  have R0 := (Bx.new1 w (.float .f64 0) (.float .f64 0) (.cells #[.float .f64 l, .float .f64 u] 24) 24).below b1
  have Z0 := old2 b1
  have T0 := tabW_below hT Z0
  obtain ⟨p1, hp1⟩ : ∃ p, w.heap.size = p := ⟨_, rfl⟩
  obtain ⟨p3, hp3⟩ : ∃ p, w.heap.size + 1 = p := ⟨_, rfl⟩
  have hp13 : w.heap.size ≤ p3 := by omega
  rw [hp3] at R0 ⊢
  rw [hp1] at A0
  rw [show (Value.pointer (some ⟨w.heap.size, 0, none⟩)) = Value.pointer (some ⟨p1, 0, none⟩) by rw [hp1]]
  clear b1 ka0 ka1
  have D0 := tabW_below T0 (Below.refl W.heap.size W).drew
  have m1 : ¬ p1 = p3 := by omega
  have m3 : ¬ p3 = p1 := by omega
  clear hp1 hp3
  have ka0 := A0.1
  have ka1 := A0.2.1
  go_region_held3 (fun w' => w'.cell? ⟨p1, 0, none⟩ = some (.float .f64 l) ∧ w'.cell? ⟨p1, 1, none⟩ = some (.float .f64 u)) (go_keep)
    (first
      | (go_at_call_of 60 (Value.int IntKind.i8 1); refine (h1 _ T1).mono ?_; rintro e x2 ⟨rfl, y2⟩; have z2 := z1.trans (y2.mono z1.size); obtain ⟨ka0, ka1, _⟩ := A0.below z2; obtain ⟨kr0, kr1, kr2, kr3, _⟩ := R0.below z2)
      | (go_at_call_of 60 (Value.int IntKind.i8 2); refine (h2 _ T1).mono ?_; rintro e x2 ⟨rfl, y2⟩; have z2 := z1.trans (y2.mono z1.size); obtain ⟨ka0, ka1, _⟩ := A0.below z2; obtain ⟨kr0, kr1, kr2, kr3, _⟩ := R0.below z2)
      | (go_at_call_of 60 (Value.int IntKind.i8 1); refine (h1 _ D0).mono ?_; rintro e x1 ⟨rfl, y1⟩; have z1 := udrew y1; have T1 := tabW_below T0 z1; obtain ⟨ka0, ka1, _⟩ := A0.below z1)
      | (go_at_call_of 60 (Value.int IntKind.i8 2); refine (h2 _ D0).mono ?_; rintro e x1 ⟨rfl, y1⟩; have z1 := udrew y1; have T1 := tabW_below T0 z1; obtain ⟨ka0, ka1, _⟩ := A0.below z1))
  all_goals
    go_wp2
    exact bodyPost_ret (v := .tuple #[spV lo hi, .int .i64 0]) (by simp [results, Tryz.results22, go_sem, kr0, kr1]) rfl ⟨rfl, set2 (Z0.trans (z2.mono Z0.size)) hp13 _ _⟩
set_option maxHeartbeats 1600000 in
theorem swidth_B (l u : Nat) (v : Nat) (_hl : l < 18446744073709551616) (_hh : u < 18446744073709551616) (q : sRt l u = true) (h1 : TB 46 u l 2 v) (w : World) (hT : TabW w) :
    Calls Tryz.prog 24 #[spV l u] w fun e w' => e = .returned (.tuple #[.float .f64 v, .int .i64 0]) ∧ Below w.heap.size w w' := by
  have r1 := fun w => sright_any l u w
  rw [q] at r1
  go_enter Tryz.func24, Tryz.ntmps24
  go_wp2_with (first | (go_at_call 55; refine (r1 _).mono ?_; rintro e v1 ⟨rfl, b1⟩; obtain ⟨a0, a1, _⟩ := (Bx.new _ _ _ _).below b1; have T1 := tabW_below hT (old1 b1)) | (go_at_call 46; refine (h1 _ T1).mono ?_; rintro e v2 ⟨rfl, b2⟩))
  exact bodyPost_ret (v := .tuple #[.float .f64 v, .int .i64 0]) (by simp [results, Tryz.results24, go_sem]) rfl ⟨rfl, (old1 b1).trans (b2.mono (old1 b1).size)⟩
set_option maxHeartbeats 800000 in
theorem swidth_not (l u : Nat) (_hl : l < 18446744073709551616) (_hh : u < 18446744073709551616) (q : sRt l u = false) (w : World) :
    Calls Tryz.prog 24 #[spV l u] w fun e w' => e = .returned (.tuple #[.float .f64 0, .int .i64 2]) ∧ Below w.heap.size w w' := by
  have r1 := fun w => sright_any l u w
  rw [q] at r1
  go_enter Tryz.func24, Tryz.ntmps24
  go_wp2_with (go_at_call 55; refine (r1 _).mono ?_; rintro e v1 ⟨rfl, b1⟩)
  exact bodyPost_ret (v := .tuple #[.float .f64 0, .int .i64 2]) (by simp [results, Tryz.results24, go_sem]) rfl ⟨rfl, old1 b1⟩
set_option maxHeartbeats 800000 in
theorem smag_not (l u : Nat) (_hl : l < 18446744073709551616) (_hh : u < 18446744073709551616) (q : sRt l u = false) (w : World) :
    Calls Tryz.prog 28 #[spV l u] w fun e w' => e = .returned (.tuple #[.float .f64 0, .int .i64 2]) ∧ Below w.heap.size w w' := by
  have r1 := fun w => sright_any l u w
  rw [q] at r1
  go_enter Tryz.func28, Tryz.ntmps28
  go_wp2_with (go_at_call 55; refine (r1 _).mono ?_; rintro e v1 ⟨rfl, b1⟩)
  exact bodyPost_ret (v := .tuple #[.float .f64 0, .int .i64 2]) (by simp [results, Tryz.results28, go_sem]) rfl ⟨rfl, old1 b1⟩
set_option maxHeartbeats 800000 in
theorem smid_not (l u : Nat) (_hl : l < 18446744073709551616) (_hh : u < 18446744073709551616) (q : sRt l u = false) (w : World) :
    Calls Tryz.prog 26 #[spV l u] w fun e w' => e = .returned (.tuple #[.float .f64 0, .int .i64 2]) ∧ Below w.heap.size w w' := by
  have r1 := fun w => sright_any l u w
  rw [q] at r1
  go_enter Tryz.func26, Tryz.ntmps26
  go_wp2_with (go_at_call 55; refine (r1 _).mono ?_; rintro e v1 ⟨rfl, b1⟩)
  exact bodyPost_ret (v := .tuple #[.float .f64 0, .int .i64 2]) (by simp [results, Tryz.results26, go_sem]) rfl ⟨rfl, old1 b1⟩
set_option maxHeartbeats 1600000 in
theorem rsquare_not (l u : Nat) (ca : ∀ w, TabW w → Calls Tryz.prog 19 #[spV l u] w fun e w' => e = .returned (.tuple #[spV 0 0, .int .i64 2]) ∧ Below w.heap.size w w') (w : World) (hT : TabW w) :
    Calls Tryz.prog 21 #[spV l u] w fun e w' => e = .returned (.tuple #[spV 0 0, .int .i64 2]) ∧ Below w.heap.size w w' := by
  have hst := run_storef Tryz.prog
  go_enter Tryz.func21, Tryz.ntmps21
  go_wp2_with (go_at_call 19; refine (ca _ (tabW_alloc (tabW_alloc hT _) _)).mono ?_; rintro e v1 ⟨rfl, b1⟩; obtain ⟨c0, c1, f0, f1, _⟩ := ((Bx.new1 _ _ _ _ _).below b1).alloc (.cells #[.float .f64 0, .float .f64 0] 24))
  have Z0 := old2 b1
  exact bodyPost_ret (v := .tuple #[spV 0 0, .int .i64 2]) (by simp [results, Tryz.results21, go_sem, c0, c1]) rfl ⟨rfl, set2 (Z0.alloc Z0.size _) (by omega) _ _⟩
set_option maxHeartbeats 2000000 in
theorem rsquare_B (l u x y lo hi : Nat) (ca : ∀ w, TabW w → Calls Tryz.prog 19 #[spV l u] w fun e w' => e = .returned (.tuple #[spV x y, .int .i64 0]) ∧ Below w.heap.size w w') (h1 : TB 59 x x 1 lo) (h2 : TB 59 y y 2 hi) (w : World) (hT : TabW w) :
    Calls Tryz.prog 21 #[spV l u] w fun e w' => e = .returned (.tuple #[spV lo hi, .int .i64 0]) ∧ Below w.heap.size w w' := by
  have hst := run_storef Tryz.prog
  go_enter Tryz.func21, Tryz.ntmps21
  go_upto_region 4 with (go_at_call 19; refine (ca _ (tabW_alloc (tabW_alloc hT _) _)).mono ?_; rintro e v1 ⟨rfl, b1⟩)
  have R0 := ((Bx.new1 w (.float .f64 0) (.float .f64 0) (.cells #[.float .f64 l, .float .f64 u] 24) 24).below b1).alloc (.cells #[.float .f64 x, .float .f64 y] 24)
  have A0 := Bx.new v1 (.float .f64 x) (.float .f64 y) 24
  have Z0 := (old2 b1).alloc (old2 b1).size (.cells #[.float .f64 x, .float .f64 y] 24)
  have T0 := tabW_below hT Z0
  have hlt := (Bx.new1 w (.float .f64 0) (.float .f64 0) (.cells #[.float .f64 l, .float .f64 u] 24) 24).below b1 |>.2.2.2.2
  generalize (v1.alloc (.cells #[.float .f64 x, .float .f64 y] 24)) = W at *
  obtain ⟨p1, hp1⟩ : ∃ p, v1.heap.size = p := ⟨_, rfl⟩
  obtain ⟨p3, hp3⟩ : ∃ p, w.heap.size + 1 = p := ⟨_, rfl⟩
  have hp13 : w.heap.size ≤ p3 := by omega
  rw [hp3] at R0 hlt ⊢
  rw [hp1] at A0 hlt ⊢
  clear b1
  have D0 := tabW_below T0 (Below.refl W.heap.size W).drew
  have m1 : ¬ p1 = p3 := by omega
  have m3 : ¬ p3 = p1 := by omega
  clear hp1 hp3
  have ka0 := A0.1
  have ka1 := A0.2.1
  go_region_held3 (fun w' => w'.cell? ⟨p1, 0, none⟩ = some (.float .f64 x) ∧ w'.cell? ⟨p1, 1, none⟩ = some (.float .f64 y)) (go_keep)
    (first
      | (go_at_call_of 59 (Value.int IntKind.i8 1); refine (h1 _ T1).mono ?_; rintro e x2 ⟨rfl, y2⟩; have z2 := z1.trans (y2.mono z1.size); obtain ⟨ka0, ka1, _⟩ := A0.below z2; obtain ⟨kr0, kr1, kr2, kr3, _⟩ := R0.below z2)
      | (go_at_call_of 59 (Value.int IntKind.i8 2); refine (h2 _ T1).mono ?_; rintro e x2 ⟨rfl, y2⟩; have z2 := z1.trans (y2.mono z1.size); obtain ⟨ka0, ka1, _⟩ := A0.below z2; obtain ⟨kr0, kr1, kr2, kr3, _⟩ := R0.below z2)
      | (go_at_call_of 59 (Value.int IntKind.i8 1); refine (h1 _ D0).mono ?_; rintro e x1 ⟨rfl, y1⟩; have z1 := udrew y1; have T1 := tabW_below T0 z1; obtain ⟨ka0, ka1, _⟩ := A0.below z1)
      | (go_at_call_of 59 (Value.int IntKind.i8 2); refine (h2 _ D0).mono ?_; rintro e x1 ⟨rfl, y1⟩; have z1 := udrew y1; have T1 := tabW_below T0 z1; obtain ⟨ka0, ka1, _⟩ := A0.below z1))
  all_goals
    go_wp2
    exact bodyPost_ret (v := .tuple #[spV lo hi, .int .i64 0]) (by simp [results, Tryz.results21, go_sem, kr0, kr1]) rfl ⟨rfl, set2 (Z0.trans (z2.mono Z0.size)) hp13 _ _⟩
set_option maxHeartbeats 1600000 in
theorem rsqrt5_not (l u : Nat) (hl : l < 18446744073709551616) (hh : u < 18446744073709551616) (q : sRt l u = false ∨ (FloatKind.f64.format.order l 0 == some .lt) = true) (w : World) :
    Calls Tryz.prog 23 #[spV l u] w fun e w' => e = .returned (.tuple #[spV 0 0, .int .i64 2]) ∧ Below w.heap.size w w' := by
  have hst := run_storef Tryz.prog
  have r1 := fun w => rright_any l u hl hh w
  cases q1 : sRt l u <;> rw [q1] at r1 q
  · clear q
    go_enter Tryz.func23, Tryz.ntmps23
    go_wp2_with (go_at_call 44; refine (r1 _).mono ?_; rintro e v1 ⟨rfl, b1⟩; obtain ⟨a0, a1, _⟩ := ((Bx.new _ _ _ _).alloc _).below b1; obtain ⟨c0, c1, f0, f1, _⟩ := (Bx.new1 _ _ _ _ _).below b1)
    exact bodyPost_ret (v := .tuple #[spV 0 0, .int .i64 2]) (by simp [results, Tryz.results23, go_sem, c0, c1]) rfl ⟨rfl, set2 (old2 b1) (by omega) _ _⟩
  · have o : (FloatKind.f64.format.order l 0 == some .lt) = true := by
      rcases q with u | u
      · cases u
      · exact u
    clear q
    go_enter Tryz.func23, Tryz.ntmps23
    go_wp2_with (go_at_call 44; refine (r1 _).mono ?_; rintro e v1 ⟨rfl, b1⟩; obtain ⟨a0, a1, _⟩ := ((Bx.new _ _ _ _).alloc _).below b1; obtain ⟨c0, c1, f0, f1, _⟩ := (Bx.new1 _ _ _ _ _).below b1)
    exact bodyPost_ret (v := .tuple #[spV 0 0, .int .i64 2]) (by simp [results, Tryz.results23, go_sem, c0, c1]) rfl ⟨rfl, set2 (old2 b1) (by omega) _ _⟩
set_option maxHeartbeats 2000000 in
theorem rsqrt5_B (l u lo hi : Nat) (hl : l < 18446744073709551616) (hh : u < 18446744073709551616) (q : sRt l u = true) (o : (FloatKind.f64.format.order l 0 == some .lt) = false) (h1 : TR 61 l 1 lo) (h2 : TR 61 u 2 hi) (w : World) (hT : TabW w) :
    Calls Tryz.prog 23 #[spV l u] w fun e w' => e = .returned (.tuple #[spV lo hi, .int .i64 0]) ∧ Below w.heap.size w w' := by
  have hst := run_storef Tryz.prog
  have r1 := fun w => rright_any l u hl hh w
  rw [q] at r1
  go_enter Tryz.func23, Tryz.ntmps23
  go_upto_region 3 with (go_at_call 44; refine (r1 _).mono ?_; rintro e W ⟨rfl, b1⟩; obtain ⟨ka0, ka1, _⟩ := ((Bx.new _ _ _ _).alloc _).below b1)
  have A0 := ((Bx.new w (.float .f64 l) (.float .f64 u) 24).alloc (.cells #[.float .f64 0, .float .f64 0] 24)).below b1
  have R0 := (Bx.new1 w (.float .f64 0) (.float .f64 0) (.cells #[.float .f64 l, .float .f64 u] 24) 24).below b1
  have Z0 := old2 b1
  have T0 := tabW_below hT Z0
  obtain ⟨p1, hp1⟩ : ∃ p, w.heap.size = p := ⟨_, rfl⟩
  obtain ⟨p3, hp3⟩ : ∃ p, w.heap.size + 1 = p := ⟨_, rfl⟩
  have hp13 : w.heap.size ≤ p3 := by omega
  rw [hp3] at R0 ⊢
  rw [hp1] at A0
  rw [show (Value.pointer (some ⟨w.heap.size, 0, none⟩)) = Value.pointer (some ⟨p1, 0, none⟩) by rw [hp1]]
  clear b1 ka0 ka1
  have D0 := tabW_below T0 (Below.refl W.heap.size W).drew
  have m1 : ¬ p1 = p3 := by omega
  have m3 : ¬ p3 = p1 := by omega
  clear hp1 hp3
  have ka0 := A0.1
  have ka1 := A0.2.1
  go_region_held3 (fun w' => w'.cell? ⟨p1, 0, none⟩ = some (.float .f64 l) ∧ w'.cell? ⟨p1, 1, none⟩ = some (.float .f64 u)) (go_keep)
    (first
      | (go_at_call_of 61 (Value.int IntKind.i8 1); refine (h1 _ T1).mono ?_; rintro e x2 ⟨rfl, y2⟩; have z2 := z1.trans (y2.mono z1.size); obtain ⟨ka0, ka1, _⟩ := A0.below z2; obtain ⟨kr0, kr1, kr2, kr3, _⟩ := R0.below z2)
      | (go_at_call_of 61 (Value.int IntKind.i8 2); refine (h2 _ T1).mono ?_; rintro e x2 ⟨rfl, y2⟩; have z2 := z1.trans (y2.mono z1.size); obtain ⟨ka0, ka1, _⟩ := A0.below z2; obtain ⟨kr0, kr1, kr2, kr3, _⟩ := R0.below z2)
      | (go_at_call_of 61 (Value.int IntKind.i8 1); refine (h1 _ D0).mono ?_; rintro e x1 ⟨rfl, y1⟩; have z1 := udrew y1; have T1 := tabW_below T0 z1; obtain ⟨ka0, ka1, _⟩ := A0.below z1)
      | (go_at_call_of 61 (Value.int IntKind.i8 2); refine (h2 _ D0).mono ?_; rintro e x1 ⟨rfl, y1⟩; have z1 := udrew y1; have T1 := tabW_below T0 z1; obtain ⟨ka0, ka1, _⟩ := A0.below z1))
  all_goals
    go_wp2
    exact bodyPost_ret (v := .tuple #[spV lo hi, .int .i64 0]) (by simp [results, Tryz.results23, go_sem, kr0, kr1]) rfl ⟨rfl, set2 (Z0.trans (z2.mono Z0.size)) hp13 _ _⟩
set_option maxHeartbeats 1600000 in
theorem rwidth_B (l u : Nat) (v : Nat) (hl : l < 18446744073709551616) (hh : u < 18446744073709551616) (q : sRt l u = true) (h1 : TB 47 u l 2 v) (w : World) (hT : TabW w) :
    Calls Tryz.prog 25 #[spV l u] w fun e w' => e = .returned (.tuple #[.float .f64 v, .int .i64 0]) ∧ Below w.heap.size w w' := by
  have r1 := fun w => rright_any l u hl hh w
  rw [q] at r1
  go_enter Tryz.func25, Tryz.ntmps25
  go_wp2_with (first | (go_at_call 44; refine (r1 _).mono ?_; rintro e v1 ⟨rfl, b1⟩; obtain ⟨a0, a1, _⟩ := (Bx.new _ _ _ _).below b1; have T1 := tabW_below hT (old1 b1)) | (go_at_call 47; refine (h1 _ T1).mono ?_; rintro e v2 ⟨rfl, b2⟩))
  exact bodyPost_ret (v := .tuple #[.float .f64 v, .int .i64 0]) (by simp [results, Tryz.results25, go_sem]) rfl ⟨rfl, (old1 b1).trans (b2.mono (old1 b1).size)⟩
set_option maxHeartbeats 800000 in
theorem rwidth_not (l u : Nat) (hl : l < 18446744073709551616) (hh : u < 18446744073709551616) (q : sRt l u = false) (w : World) :
    Calls Tryz.prog 25 #[spV l u] w fun e w' => e = .returned (.tuple #[.float .f64 0, .int .i64 2]) ∧ Below w.heap.size w w' := by
  have r1 := fun w => rright_any l u hl hh w
  rw [q] at r1
  go_enter Tryz.func25, Tryz.ntmps25
  go_wp2_with (go_at_call 44; refine (r1 _).mono ?_; rintro e v1 ⟨rfl, b1⟩)
  exact bodyPost_ret (v := .tuple #[.float .f64 0, .int .i64 2]) (by simp [results, Tryz.results25, go_sem]) rfl ⟨rfl, old1 b1⟩
set_option maxHeartbeats 800000 in
theorem rmag_not (l u : Nat) (hl : l < 18446744073709551616) (hh : u < 18446744073709551616) (q : sRt l u = false) (w : World) :
    Calls Tryz.prog 29 #[spV l u] w fun e w' => e = .returned (.tuple #[.float .f64 0, .int .i64 2]) ∧ Below w.heap.size w w' := by
  have r1 := fun w => rright_any l u hl hh w
  rw [q] at r1
  go_enter Tryz.func29, Tryz.ntmps29
  go_wp2_with (go_at_call 44; refine (r1 _).mono ?_; rintro e v1 ⟨rfl, b1⟩)
  exact bodyPost_ret (v := .tuple #[.float .f64 0, .int .i64 2]) (by simp [results, Tryz.results29, go_sem]) rfl ⟨rfl, old1 b1⟩
set_option maxHeartbeats 800000 in
theorem rmid_not (l u : Nat) (hl : l < 18446744073709551616) (hh : u < 18446744073709551616) (q : sRt l u = false) (w : World) :
    Calls Tryz.prog 27 #[spV l u] w fun e w' => e = .returned (.tuple #[.float .f64 0, .int .i64 2]) ∧ Below w.heap.size w w' := by
  have r1 := fun w => rright_any l u hl hh w
  rw [q] at r1
  go_enter Tryz.func27, Tryz.ntmps27
  go_wp2_with (go_at_call 44; refine (r1 _).mono ?_; rintro e v1 ⟨rfl, b1⟩)
  exact bodyPost_ret (v := .tuple #[.float .f64 0, .int .i64 2]) (by simp [results, Tryz.results27, go_sem]) rfl ⟨rfl, old1 b1⟩
set_option maxHeartbeats 1600000 in
theorem smag_B (l u : Nat) (hl : l < 18446744073709551616) (hh : u < 18446744073709551616) (q : sRt l u = true) (w : World) (hT : TabW w) :
    Calls Tryz.prog 28 #[spV l u] w fun e w' => e = .returned (.tuple #[.float .f64 (grF (rung l) (rung u)), .int .i64 0]) ∧ Below w.heap.size w w' := by
  have r1 := fun w => sright_any l u w
  have n1 := fun w => ssize_any l u hl hh w
  rw [q] at r1
  go_enter Tryz.func28, Tryz.ntmps28
  go_wp2_with (first | (go_at_call 55; refine (r1 _).mono ?_; rintro e v1 ⟨rfl, b1⟩; obtain ⟨a0, a1, _⟩ := (Bx.new _ _ _ _).below b1; have T1 := tabW_below hT (old1 b1)) | (go_at_call 56; refine (n1 _).mono ?_; rintro e v2 ⟨rfl, b2⟩))
  exact bodyPost_ret (v := .tuple #[.float .f64 (grF (rung l) (rung u)), .int .i64 0]) (by simp [results, Tryz.results28, go_sem]) rfl ⟨rfl, (old1 b1).trans (b2.mono (old1 b1).size)⟩
set_option maxHeartbeats 1600000 in
theorem rmag_B (l u : Nat) (hl : l < 18446744073709551616) (hh : u < 18446744073709551616) (nl : nanB l = false) (nh : nanB u = false) (q : sRt l u = true) (w : World) :
    Calls Tryz.prog 29 #[spV l u] w fun e w' => e = .returned (.tuple #[.float .f64 (grF (rung l) (rung u)), .int .i64 0]) ∧ Below w.heap.size w w' := by
  have r1 := fun w => rright_any l u hl hh w
  have s1 := fun w => rsize_any l hl nl w
  have s2 := fun w => rsize_any u hh nh w
  have hmx := fun ts t w => run_maxf (P := Tryz.prog) (x := rung l) (y := rung u) (by unfold nanB at nl; simpa using nl) (by unfold nanB at nh; simpa using nh) ts t w
  rw [q] at r1
  generalize grF (rung l) (rung u) = v at *
  generalize rung l = x at *
  generalize rung u = y at *
  go_enter Tryz.func29, Tryz.ntmps29
  go_upto_region 3 with (go_at_call 44; refine (r1 _).mono ?_; rintro e v1 ⟨rfl, b1⟩; obtain ⟨a0, a1, _⟩ := (Bx.new _ _ _ _).below b1)
  have Z0 := old1 b1
  clear b1
  go_region_held3 (fun w' => w'.cell? ⟨w.heap.size, 0, none⟩ = some (.float .f64 l) ∧ w'.cell? ⟨w.heap.size, 1, none⟩ = some (.float .f64 u)) (go_keep)
    (first
      | (go_at_call_of 57 (Value.float FloatKind.f64 l); refine (s1 _).mono ?_; rintro e w' ⟨rfl, rfl⟩)
      | (go_at_call_of 57 (Value.float FloatKind.f64 u); refine (s2 _).mono ?_; rintro e w' ⟨rfl, rfl⟩))
  all_goals
    go_wp2
    exact bodyPost_ret (v := .tuple #[.float .f64 v, .int .i64 0]) (by simp [results, Tryz.results29, go_sem]) rfl ⟨rfl, Z0.drew⟩
set_option maxHeartbeats 1600000 in
theorem smid_over (l u : Nat) (hl : l < 18446744073709551616) (hh : u < 18446744073709551616) (q : sRt l u = true) (f : (finB l && finB u) = false) (w : World) :
    Calls Tryz.prog 26 #[spV l u] w fun e w' => e = .returned (.tuple #[.float .f64 0, .int .i64 6]) ∧ Below w.heap.size w w' := by
  have r1 := fun w => sright_any l u w
  have c1 := sfin_any l hl
  have c2 := sfin_any u hh
  rw [q] at r1
  cases f1 : finB l <;> rw [f1] at c1 f
  · go_enter Tryz.func26, Tryz.ntmps26
    go_wp2_with (first | (go_at_call 55; refine (r1 _).mono ?_; rintro e v1 ⟨rfl, b1⟩; obtain ⟨a0, a1, _⟩ := (Bx.new _ _ _ _).below b1) | (go_at_call_of 62 (Value.float FloatKind.f64 l); refine (c1 _).mono ?_; rintro e w' ⟨rfl, rfl⟩))
    exact bodyPost_ret (v := .tuple #[.float .f64 0, .int .i64 6]) (by simp [results, Tryz.results26, go_sem]) rfl ⟨rfl, old1 b1⟩
  · have f2 : finB u = false := by simpa using f
    rw [f2] at c2
    go_enter Tryz.func26, Tryz.ntmps26
    go_wp2_with (first | (go_at_call 55; refine (r1 _).mono ?_; rintro e v1 ⟨rfl, b1⟩; obtain ⟨a0, a1, _⟩ := (Bx.new _ _ _ _).below b1) | (go_at_call_of 62 (Value.float FloatKind.f64 l); refine (c1 _).mono ?_; rintro e w' ⟨rfl, rfl⟩) | (go_at_call_of 62 (Value.float FloatKind.f64 u); refine (c2 _).mono ?_; rintro e w' ⟨rfl, rfl⟩))
    exact bodyPost_ret (v := .tuple #[.float .f64 0, .int .i64 6]) (by simp [results, Tryz.results26, go_sem]) rfl ⟨rfl, old1 b1⟩
set_option maxHeartbeats 1600000 in
theorem rmid_over (l u : Nat) (hl : l < 18446744073709551616) (hh : u < 18446744073709551616) (q : sRt l u = true) (f : (finB l && finB u) = false) (w : World) :
    Calls Tryz.prog 27 #[spV l u] w fun e w' => e = .returned (.tuple #[.float .f64 0, .int .i64 6]) ∧ Below w.heap.size w w' := by
  have r1 := fun w => rright_any l u hl hh w
  have c1 := rfin5_any l hl
  have c2 := rfin5_any u hh
  rw [q] at r1
  cases f1 : finB l <;> rw [f1] at c1 f
  · go_enter Tryz.func27, Tryz.ntmps27
    go_wp2_with (first | (go_at_call 44; refine (r1 _).mono ?_; rintro e v1 ⟨rfl, b1⟩; have A1 := (Bx.new _ _ _ _).below b1; obtain ⟨a0, a1, _⟩ := (Bx.new _ _ _ _).below b1) | (go_at_call_of 63 (Value.float FloatKind.f64 l); refine (c1 _).mono ?_; rintro e v2 ⟨rfl, b2⟩; obtain ⟨a0, a1, _⟩ := A1.below b2; have Z2 := (old1 b1).trans (b2.mono (old1 b1).size)))
    exact bodyPost_ret (v := .tuple #[.float .f64 0, .int .i64 6]) (by simp [results, Tryz.results27, go_sem]) rfl ⟨rfl, Z2⟩
  · have f2 : finB u = false := by simpa using f
    rw [f2] at c2
    go_enter Tryz.func27, Tryz.ntmps27
    go_wp2_with (first | (go_at_call 44; refine (r1 _).mono ?_; rintro e v1 ⟨rfl, b1⟩; have A1 := (Bx.new _ _ _ _).below b1; obtain ⟨a0, a1, _⟩ := (Bx.new _ _ _ _).below b1) | (go_at_call_of 63 (Value.float FloatKind.f64 l); refine (c1 _).mono ?_; rintro e v2 ⟨rfl, b2⟩; obtain ⟨a0, a1, _⟩ := A1.below b2; have Z2 := (old1 b1).trans (b2.mono (old1 b1).size)) | (go_at_call_of 63 (Value.float FloatKind.f64 u); refine (c2 _).mono ?_; rintro e v3 ⟨rfl, b3⟩; have Z3 := Z2.trans (b3.mono Z2.size)))
    exact bodyPost_ret (v := .tuple #[.float .f64 0, .int .i64 6]) (by simp [results, Tryz.results27, go_sem]) rfl ⟨rfl, Z3⟩
set_option maxHeartbeats 1600000 in
theorem smid_B (l u x y v : Nat) (hl : l < 18446744073709551616) (hh : u < 18446744073709551616) (q : sRt l u = true) (f1 : finB l = true) (f2 : finB u = true) (e1 : floatBits .quo .f64 l 4611686018427387904 = some x) (e2 : floatBits .quo .f64 u 4611686018427387904 = some y) (e3 : floatBits .add .f64 x y = some v) (w : World) :
    Calls Tryz.prog 26 #[spV l u] w fun e w' => e = .returned (.tuple #[.float .f64 v, .int .i64 0]) ∧ Below w.heap.size w w' := by
  have r1 := fun w => sright_any l u w
  have c1 := sfin_any l hl
  have c2 := sfin_any u hh
  have o1 := fun w => run_float_arith (P := Tryz.prog) w .quo 22 .f64 _ _ _ e1
  have o2 := fun w => run_float_arith (P := Tryz.prog) w .quo 22 .f64 _ _ _ e2
  have o3 := fun w => run_float_arith (P := Tryz.prog) w .add 22 .f64 _ _ _ e3
  have hcv := conv64
  rw [q] at r1
  rw [f1] at c1
  rw [f2] at c2
  clear e1 e2 e3 f1 f2
  go_enter Tryz.func26, Tryz.ntmps26
  go_wp2_with (first | (go_at_call 55; refine (r1 _).mono ?_; rintro e v1 ⟨rfl, b1⟩; obtain ⟨a0, a1, _⟩ := (Bx.new _ _ _ _).below b1) | (go_at_call_of 62 (Value.float FloatKind.f64 l); refine (c1 _).mono ?_; rintro e w' ⟨rfl, rfl⟩) | (go_at_call_of 62 (Value.float FloatKind.f64 u); refine (c2 _).mono ?_; rintro e w' ⟨rfl, rfl⟩))
  exact bodyPost_ret (v := .tuple #[.float .f64 v, .int .i64 0]) (by simp [results, Tryz.results26, go_sem]) rfl ⟨rfl, old1 b1⟩
set_option maxHeartbeats 2000000 in
theorem rmid_B (l u x y v : Nat) (hl : l < 18446744073709551616) (hh : u < 18446744073709551616) (q : sRt l u = true) (f1 : finB l = true) (f2 : finB u = true) (h1 : TB 64 l 4611686018427387904 0 x) (h2 : TB 64 u 4611686018427387904 0 y) (h3 : TB 45 x y 0 v) (w : World) (hT : TabW w) :
    Calls Tryz.prog 27 #[spV l u] w fun e w' => e = .returned (.tuple #[.float .f64 v, .int .i64 0]) ∧ Below w.heap.size w w' := by
  have r1 := fun w => rright_any l u hl hh w
  have c1 := rfin5_any l hl
  have c2 := rfin5_any u hh
  rw [q] at r1
  rw [f1] at c1
  rw [f2] at c2
  clear f1 f2
  go_enter Tryz.func27, Tryz.ntmps27
  go_upto_region 5 with (first | (go_at_call 44; refine (r1 _).mono ?_; rintro e v1 ⟨rfl, b1⟩; have A1 := (Bx.new _ _ _ _).below b1; obtain ⟨a0, a1, _⟩ := (Bx.new _ _ _ _).below b1) | (go_at_call_of 63 (Value.float FloatKind.f64 l); refine (c1 _).mono ?_; rintro e v2 ⟨rfl, b2⟩; have A2 := A1.below b2; obtain ⟨a0, a1, _⟩ := A1.below b2; have Z2 := (old1 b1).trans (b2.mono (old1 b1).size)) | (go_at_call_of 63 (Value.float FloatKind.f64 u); refine (c2 _).mono ?_; rintro e W ⟨rfl, b3⟩))
  have A3 := A2.below b3
  have Z3 := Z2.trans (b3.mono Z2.size)
  have T3 := tabW_below hT Z3
  have hne : Nonempty (QOf W) := QOf.any T3
  have k1 : ∀ z : QOf W, z.val.cell? ⟨w.heap.size, 0, none⟩ = some (.float .f64 l) := fun z => z.cell A3.1
  have k2 : ∀ z : QOf W, z.val.cell? ⟨w.heap.size, 1, none⟩ = some (.float .f64 u) := fun z => z.cell A3.2.1
  clear a0 a1 A1 A2 A3 b1 b2 b3 c1 c2 r1 Z2
  refine region_quietB (by kernel_rfl) (by kernel_rfl) T3 ?_
  repeat (quiet_step ((first
    | (go_at_call 45; exact quietB_of (h3 _ (QOf.tab _)))
    | (go_at_call_of 64 (Value.float FloatKind.f64 l); exact quietB_of (h1 _ (QOf.tab _)))
    | (go_at_call_of 64 (Value.float FloatKind.f64 u); exact quietB_of (h2 _ (QOf.tab _))))))
  refine wpQuiet_nil ?_
  intro w' hw'
  obtain ⟨z, rfl⟩ := hw'
  go_wp2
  exact bodyPost_ret (v := .tuple #[.float .f64 v, .int .i64 0]) (by simp [results, Tryz.results27, go_sem]) rfl ⟨rfl, Z3.trans (z.below.mono Z3.size)⟩
end Go.Proofs.YtiaeannkkjhkaaaGreatDoor

namespace Go.Proofs.YtiaeannkkjhkaaaGreatDoor
open Go.RowKit

abbrev OneS (F l h lo hi : Nat) (n : Int) : Prop := ∀ w, TabW w → Calls Tryz.prog F #[spV l h] w fun e w' => e = .returned (.tuple #[spV lo hi, .int .i64 n]) ∧ Below w.heap.size w w'
abbrev OneF (F l h v : Nat) (n : Int) : Prop := ∀ w, TabW w → Calls Tryz.prog F #[spV l h] w fun e w' => e = .returned (.tuple #[.float .f64 v, .int .i64 n]) ∧ Below w.heap.size w w'
theorem neg_one (l h : Nat) (hl : l < 18446744073709551616) (hh : h < 18446744073709551616) : ∃ lo hi n, lo < 18446744073709551616 ∧ hi < 18446744073709551616 ∧ OneS 16 l h lo hi n ∧ OneS 17 l h lo hi n := by
  have h1 := fun w => sneg_any l h w
  have h2 := fun w => rneg_any l h hl hh w
  cases q : sRt l h <;> rw [q] at h1 h2
  · exact ⟨0, 0, 2, by omega, by omega, fun w _ => h1 w, fun w _ => h2 w⟩
  · exact ⟨_, _, 0, negW_lt hh, negW_lt hl, fun w _ => h1 w, fun w _ => h2 w⟩
theorem abs_one (l h : Nat) (hl : l < 18446744073709551616) (hh : h < 18446744073709551616) : ∃ lo hi n, lo < 18446744073709551616 ∧ hi < 18446744073709551616 ∧ nanB lo = false ∧ nanB hi = false ∧ (n = 0 ∨ (n = 2 ∧ lo = 0 ∧ hi = 0)) ∧ OneS 18 l h lo hi n ∧ OneS 19 l h lo hi n := by
  cases q : sRt l h
  · exact ⟨0, 0, 2, by omega, by omega, by decide, by decide, Or.inr ⟨rfl, rfl, rfl⟩, fun w _ => sabs_not l h hl hh q w, fun w _ => rabs_not l h hl hh q w⟩
  · obtain ⟨nl, nh, _⟩ := rt_facts hl hh q
    cases o : (FloatKind.f64.format.order l 0 == some .gt)
    · cases p : (FloatKind.f64.format.order h 0 == some .lt)
      · have rl := rung_lt l
        have rh := rung_lt h
        refine ⟨0, grF (rung l) (rung h), 0, by omega, grF_lt (by omega) (by omega), by decide, ?_, Or.inl rfl, fun w _ => sabs_mid l h hl hh q o p w, fun w _ => rabs_mid l h hl hh nl nh q o p w⟩
        have el : nanB (rung l) = nanB l := by unfold nanB; rw [rung_small (by omega)]
        have eh : nanB (rung h) = nanB h := by unfold nanB; rw [rung_small (by omega)]
        unfold grF
        split
        · rw [eh]; exact nh
        · rw [el]; exact nl
      · exact ⟨_, _, 0, negW_lt hh, negW_lt hl, (neg_nan hh).trans nh, (neg_nan hl).trans nl, Or.inl rfl, fun w _ => sabs_below l h hl hh q o p w, fun w _ => rabs_below l h hl hh q o p w⟩
    · exact ⟨l, h, 0, hl, hh, nl, nh, Or.inl rfl, fun w _ => sabs_above l h hl hh q o w, fun w _ => rabs_above l h hl hh q o w⟩
theorem self_ok (x : Nat) : ((rung x == 0 && !finB x) || (rung x == 0 && !finB x)) = false := by
  cases h : (rung x == 0)
  · simp
  · have e : rung x = 0 := by simpa using h
    have f : finB x = true := by unfold finB; rw [e]; decide
    rw [f]; simp
theorem square_one (l h : Nat) (hl : l < 18446744073709551616) (hh : h < 18446744073709551616) : ∃ lo hi n, lo < 18446744073709551616 ∧ hi < 18446744073709551616 ∧ OneS 20 l h lo hi n ∧ OneS 21 l h lo hi n := by
  obtain ⟨x, y, n, hx, hy, nx, ny, hn, c1, c2⟩ := abs_one l h hl hh
  rcases hn with rfl | ⟨rfl, rfl, rfl⟩
  · obtain ⟨a1, a2, a3⟩ := rmul_B 1 hx hx (mulS_ok hx hx nx nx (self_ok x))
    obtain ⟨b1, b2, b3⟩ := rmul_B 2 hy hy (mulS_ok hy hy ny ny (self_ok y))
    exact ⟨_, _, 0, a1, b1, fun w hT => ssquare_B l h x y _ _ c1 a2 b2 w hT, fun w hT => rsquare_B l h x y _ _ c2 a3 b3 w hT⟩
  · exact ⟨0, 0, 2, by omega, by omega, fun w hT => ssquare_not l h c1 w hT, fun w hT => rsquare_not l h c2 w hT⟩
theorem sqrt_one (l h : Nat) (hl : l < 18446744073709551616) (hh : h < 18446744073709551616) : ∃ lo hi n, lo < 18446744073709551616 ∧ hi < 18446744073709551616 ∧ OneS 22 l h lo hi n ∧ OneS 23 l h lo hi n := by
  cases q : sRt l h
  · exact ⟨0, 0, 2, by omega, by omega, fun w _ => ssqrt_not l h hl hh (Or.inl q) w, fun w _ => rsqrt5_not l h hl hh (Or.inl q) w⟩
  · cases o : (FloatKind.f64.format.order l 0 == some .lt)
    · obtain ⟨nl, nh, _, _, hp⟩ := rt_facts hl hh q
      have o2 := o
      rw [zero_lt hl, nl] at o2
      simp only [Bool.not_false, Bool.true_and, decide_eq_false_iff_not] at o2
      have pos : ∀ x, 0 ≤ place x → sgn x = false ∨ rung x = 0 := by
        intro x hx
        unfold place at hx
        cases s : sgn x
        · exact Or.inl rfl
        · rw [s] at hx; simp at hx; exact Or.inr hx
      obtain ⟨a1, a2, a3⟩ := rsqrt_B 1 hl (sqrtS_ok hl nl (pos l (by omega)))
      obtain ⟨b1, b2, b3⟩ := rsqrt_B 2 hh (sqrtS_ok hh nh (pos h (by omega)))
      exact ⟨_, _, 0, a1, b1, fun w hT => ssqrt_B l h _ _ hl hh q o a2 b2 w hT, fun w hT => rsqrt5_B l h _ _ hl hh q o a3 b3 w hT⟩
    · exact ⟨0, 0, 2, by omega, by omega, fun w _ => ssqrt_not l h hl hh (Or.inr o) w, fun w _ => rsqrt5_not l h hl hh (Or.inr o) w⟩
theorem width_one (l h : Nat) (hl : l < 18446744073709551616) (hh : h < 18446744073709551616) : ∃ v n, v < 18446744073709551616 ∧ OneF 24 l h v n ∧ OneF 25 l h v n := by
  cases q : sRt l h
  · exact ⟨0, 2, by omega, fun w _ => swidth_not l h hl hh q w, fun w _ => rwidth_not l h hl hh q w⟩
  · obtain ⟨nl, nh, fl, fh, _⟩ := rt_facts hl hh q
    have nn := neg_nan hl
    rw [nl] at nn
    obtain ⟨a1, a2, a3⟩ := rsub_B 2 hh hl (addS_ok hh (negW_lt hl) nh nn (by rw [(neg_rung hl).2, neg_fin hl]; rcases fh with h | h <;> rcases fl with g | g <;> simp [h, g]))
    exact ⟨_, 0, a1, fun w hT => swidth_B l h _ hl hh q a2 w hT, fun w hT => rwidth_B l h _ hl hh q a3 w hT⟩
theorem mag_one (l h : Nat) (hl : l < 18446744073709551616) (hh : h < 18446744073709551616) : ∃ v n, v < 18446744073709551616 ∧ OneF 28 l h v n ∧ OneF 29 l h v n := by
  cases q : sRt l h
  · exact ⟨0, 2, by omega, fun w _ => smag_not l h hl hh q w, fun w _ => rmag_not l h hl hh q w⟩
  · obtain ⟨nl, nh, _⟩ := rt_facts hl hh q
    have rl := rung_lt l
    have rh := rung_lt h
    exact ⟨_, 0, grF_lt (by omega) (by omega), fun w hT => smag_B l h hl hh q w hT, fun w _ => rmag_B l h hl hh nl nh q w⟩
theorem mid_one (l h : Nat) (hl : l < 18446744073709551616) (hh : h < 18446744073709551616) : ∃ v n, v < 18446744073709551616 ∧ OneF 26 l h v n ∧ OneF 27 l h v n := by
  cases q : sRt l h
  · exact ⟨0, 2, by omega, fun w _ => smid_not l h hl hh q w, fun w _ => rmid_not l h hl hh q w⟩
  · obtain ⟨nl, nh, _⟩ := rt_facts hl hh q
    cases f : (finB l && finB h)
    · exact ⟨0, 6, by omega, fun w _ => smid_over l h hl hh q f w, fun w _ => rmid_over l h hl hh q f w⟩
    · have fl : finB l = true := by revert f; cases finB l <;> simp
      have fh : finB h = true := by revert f; cases finB l <;> simp
      have k1 := divS_ok hl (y := 4611686018427387904) (by omega) nl (by decide) (by rw [fl]; rfl) (by decide)
      have k2 := divS_ok hh (y := 4611686018427387904) (by omega) nh (by decide) (by rw [fh]; rfl) (by decide)
      obtain ⟨x, ex⟩ := Option.isSome_iff_exists.1 k1
      obtain ⟨y, ey⟩ := Option.isSome_iff_exists.1 k2
      have wx := op_word (op := .quo) (Or.inr (Or.inr (Or.inr rfl))) ex
      have wy := op_word (op := .quo) (Or.inr (Or.inr (Or.inr rfl))) ey
      have gx := half_fin hl fl ex
      have k3 := addS_ok wx.1 wy.1 (rung_nan wx.2) (rung_nan wy.2) (Or.inl gx)
      obtain ⟨v, ev⟩ := Option.isSome_iff_exists.1 k3
      obtain ⟨_, _, d1⟩ := rdiv_B 0 hl (by omega) k1
      obtain ⟨_, _, d2⟩ := rdiv_B 0 hh (by omega) k2
      obtain ⟨a1, _, d3⟩ := radd_B 0 wx.1 wy.1 k3
      rw [divB_near, ex] at d1
      rw [divB_near, ey] at d2
      rw [addB_near wx.1 wy.1, ev] at d3 a1
      exact ⟨v, 0, a1, fun w _ => smid_B l h x y v hl hh q fl fh ex ey ev w, fun w hT => rmid_B l h x y v hl hh q fl fh d1 d2 d3 w hT⟩
end Go.Proofs.YtiaeannkkjhkaaaGreatDoor

namespace Go.Proofs.YtiaeannkkjhkaaaGreatDoor
open Go.RowKit

set_option maxRecDepth 100000 in
set_option maxHeartbeats 4000000 in
theorem law_spanturns (a b : Nat) (ha : a < 18446744073709551616) (hb : b < 18446744073709551616) (w : World) (hT : TabW w) :
    Calls Tryz.prog 4 #[spV a b] w fun e w' => e = .returned (.bool true) ∧ Below w.heap.size w w' := by
  obtain ⟨ln, hhn, nn, mln, mhn, cn1, cn2⟩ := neg_one a b ha hb
  obtain ⟨lq, hhq, nq, mlq, mhq, cq1, cq2⟩ := square_one a b ha hb
  obtain ⟨lr, hhr, nr, mlr, mhr, cr1, cr2⟩ := sqrt_one a b ha hb
  obtain ⟨la, hha, na, mla, mha, _, _, _, ca1, ca2⟩ := abs_one a b ha hb
  have tn := fun w => told_self ln hhn nn mln mhn w
  have ta := fun w => told_self la hha na mla mha w
  have tq := fun w => told_self lq hhq nq mlq mhq w
  have tr := fun w => told_self lr hhr nr mlr mhr w
  obtain ⟨fw, gw, mfw, dw1, dw2⟩ := width_one a b ha hb
  have sw := fun w => samef_self fw mfw w
  have ew : (gw == gw) = true := by simp
  obtain ⟨fm, gm, mfm, dm1, dm2⟩ := mid_one a b ha hb
  have sm := fun w => samef_self fm mfm w
  have em : (gm == gm) = true := by simp
  obtain ⟨fz, gz, mfz, dz1, dz2⟩ := mag_one a b ha hb
  have sz := fun w => samef_self fz mfz w
  have ez : (gz == gz) = true := by simp
  have hst := run_storef Tryz.prog
  go_enter Tryz.func4, Tryz.ntmps4
  go_upto_region 3 with (go_at_call 6; refine (sawake _).mono ?_; rintro e v0 ⟨rfl, b0⟩; have A := (Bx.new _ _ _ _).below b0; have Z := old1 b0; have T := tabW_below hT Z; obtain ⟨xa0, xa1, _⟩ := A; have A := (Bx.new _ _ _ _).below b0)
  go_upto_region 4 with (go_at_call 16; refine (cn1 _ T).mono ?_; rintro e v1 ⟨rfl, b1⟩; have A := A.below b1; have Z := Z.trans (b1.mono Z.size); obtain ⟨xa0, xa1, _⟩ := A.alloc (.cells #[.float .f64 ln, .float .f64 hhn] 24); have T := tabW_alloc (tabW_below hT Z) (.cells #[.float .f64 ln, .float .f64 hhn] 24))
  go_upto_region 5 with (go_at_call 17; refine (cn2 _ T).mono ?_; rintro e v2 ⟨rfl, b2⟩; have A := (A.alloc _).below b2; have B0 := (Bx.new v1 _ _ _).below b2; have Z := bstep Z b2; obtain ⟨xa0, xa1, _⟩ := A.alloc (.cells #[.float .f64 ln, .float .f64 hhn] 24); have T := tabW_alloc (tabW_below hT Z) (.cells #[.float .f64 ln, .float .f64 hhn] 24))
  go_upto_region 6 with (go_at_call 18; refine (ca1 _ T).mono ?_; rintro e v3 ⟨rfl, b3⟩; have A := (A.alloc _).below b3; have B0 := (B0.alloc _).below b3; have B1 := (Bx.new v2 _ _ _).below b3; have Z := bstep Z b3; obtain ⟨xa0, xa1, _⟩ := A.alloc (.cells #[.float .f64 la, .float .f64 hha] 24); have T := tabW_alloc (tabW_below hT Z) (.cells #[.float .f64 la, .float .f64 hha] 24))
  go_upto_region 7 with (go_at_call 19; refine (ca2 _ T).mono ?_; rintro e v4 ⟨rfl, b4⟩; have A := (A.alloc _).below b4; have B0 := (B0.alloc _).below b4; have B1 := (B1.alloc _).below b4; have B2 := (Bx.new v3 _ _ _).below b4; have Z := bstep Z b4; obtain ⟨xa0, xa1, _⟩ := A.alloc (.cells #[.float .f64 la, .float .f64 hha] 24); have T := tabW_alloc (tabW_below hT Z) (.cells #[.float .f64 la, .float .f64 hha] 24))
  go_upto_region 8 with (go_at_call 20; refine (cq1 _ T).mono ?_; rintro e v5 ⟨rfl, b5⟩; have A := (A.alloc _).below b5; have B0 := (B0.alloc _).below b5; have B1 := (B1.alloc _).below b5; have B2 := (B2.alloc _).below b5; have B3 := (Bx.new v4 _ _ _).below b5; have Z := bstep Z b5; obtain ⟨xa0, xa1, _⟩ := A.alloc (.cells #[.float .f64 lq, .float .f64 hhq] 24); have T := tabW_alloc (tabW_below hT Z) (.cells #[.float .f64 lq, .float .f64 hhq] 24))
  go_upto_region 9 with (go_at_call 21; refine (cq2 _ T).mono ?_; rintro e v6 ⟨rfl, b6⟩; have A := (A.alloc _).below b6; have B0 := (B0.alloc _).below b6; have B1 := (B1.alloc _).below b6; have B2 := (B2.alloc _).below b6; have B3 := (B3.alloc _).below b6; have B4 := (Bx.new v5 _ _ _).below b6; have Z := bstep Z b6; obtain ⟨xa0, xa1, _⟩ := A.alloc (.cells #[.float .f64 lq, .float .f64 hhq] 24); have T := tabW_alloc (tabW_below hT Z) (.cells #[.float .f64 lq, .float .f64 hhq] 24))
  go_upto_region 10 with (go_at_call 22; refine (cr1 _ T).mono ?_; rintro e v7 ⟨rfl, b7⟩; have A := (A.alloc _).below b7; have B0 := (B0.alloc _).below b7; have B1 := (B1.alloc _).below b7; have B2 := (B2.alloc _).below b7; have B3 := (B3.alloc _).below b7; have B4 := (B4.alloc _).below b7; have B5 := (Bx.new v6 _ _ _).below b7; have Z := bstep Z b7; obtain ⟨xa0, xa1, _⟩ := A.alloc (.cells #[.float .f64 lr, .float .f64 hhr] 24); have T := tabW_alloc (tabW_below hT Z) (.cells #[.float .f64 lr, .float .f64 hhr] 24))
  go_upto_region 11 with (go_at_call 23; refine (cr2 _ T).mono ?_; rintro e v8 ⟨rfl, b8⟩; have A := (A.alloc _).below b8; have B0 := (B0.alloc _).below b8; have B1 := (B1.alloc _).below b8; have B2 := (B2.alloc _).below b8; have B3 := (B3.alloc _).below b8; have B4 := (B4.alloc _).below b8; have B5 := (B5.alloc _).below b8; have B6 := (Bx.new v7 _ _ _).below b8; have Z := bstep Z b8; obtain ⟨xa0, xa1, _⟩ := A.alloc (.cells #[.float .f64 lr, .float .f64 hhr] 24); have T := tabW_alloc (tabW_below hT Z) (.cells #[.float .f64 lr, .float .f64 hhr] 24))
  clear xa0 xa1
  have A := A.alloc (.cells #[.float .f64 lr, .float .f64 hhr] 24)
  have B0 := B0.alloc (.cells #[.float .f64 lr, .float .f64 hhr] 24)
  have B1 := B1.alloc (.cells #[.float .f64 lr, .float .f64 hhr] 24)
  have B2 := B2.alloc (.cells #[.float .f64 lr, .float .f64 hhr] 24)
  have B3 := B3.alloc (.cells #[.float .f64 lr, .float .f64 hhr] 24)
  have B4 := B4.alloc (.cells #[.float .f64 lr, .float .f64 hhr] 24)
  have B5 := B5.alloc (.cells #[.float .f64 lr, .float .f64 hhr] 24)
  have B6 := B6.alloc (.cells #[.float .f64 lr, .float .f64 hhr] 24)
  have B7 := Bx.new v8 (.float .f64 lr) (.float .f64 hhr) 24
  have Z := Z.trans (((Below.refl _ _).alloc (Nat.le_refl _) (.cells #[.float .f64 lr, .float .f64 hhr] 24)).mono Z.size)
  generalize (v8.alloc (.cells #[.float .f64 lr, .float .f64 hhr] 24)) = W at *
  generalize v1.heap.size = q0 at *
  generalize v2.heap.size = q1 at *
  generalize v3.heap.size = q2 at *
  generalize v4.heap.size = q3 at *
  generalize v5.heap.size = q4 at *
  generalize v6.heap.size = q5 at *
  generalize v7.heap.size = q6 at *
  generalize v8.heap.size = q7 at *
  have k0 := B0.1
  have j0 := B0.2.1
  have k1 := B1.1
  have j1 := B1.2.1
  have k2 := B2.1
  have j2 := B2.2.1
  have k3 := B3.1
  have j3 := B3.2.1
  have k4 := B4.1
  have j4 := B4.2.1
  have k5 := B5.1
  have j5 := B5.2.1
  have k6 := B6.1
  have j6 := B6.2.1
  have k7 := B7.1
  have j7 := B7.2.1
  go_upto_region 13 with (first
    | (go_at_call_of 15 (Value.agg #[Value.float FloatKind.f64 ln, Value.float FloatKind.f64 hhn]); refine (tn _).mono ?_; rintro e y0 ⟨rfl, w0⟩; have Y := w0; have k2 := (B2.below Y).1; have j2 := (B2.below Y).2.1; have k3 := (B3.below Y).1; have j3 := (B3.below Y).2.1; have k4 := (B4.below Y).1; have j4 := (B4.below Y).2.1; have k5 := (B5.below Y).1; have j5 := (B5.below Y).2.1; have k6 := (B6.below Y).1; have j6 := (B6.below Y).2.1; have k7 := (B7.below Y).1; have j7 := (B7.below Y).2.1)
    | (go_at_call_of 15 (Value.agg #[Value.float FloatKind.f64 la, Value.float FloatKind.f64 hha]); refine (ta _).mono ?_; rintro e y1 ⟨rfl, w1⟩; have Y := Y.trans (w1.mono Y.size); have k4 := (B4.below Y).1; have j4 := (B4.below Y).2.1; have k5 := (B5.below Y).1; have j5 := (B5.below Y).2.1; have k6 := (B6.below Y).1; have j6 := (B6.below Y).2.1; have k7 := (B7.below Y).1; have j7 := (B7.below Y).2.1)
    | (go_at_call_of 15 (Value.agg #[Value.float FloatKind.f64 lq, Value.float FloatKind.f64 hhq]); refine (tq _).mono ?_; rintro e y2 ⟨rfl, w2⟩; have Y := Y.trans (w2.mono Y.size); have k6 := (B6.below Y).1; have j6 := (B6.below Y).2.1; have k7 := (B7.below Y).1; have j7 := (B7.below Y).2.1)
    | (go_at_call_of 15 (Value.agg #[Value.float FloatKind.f64 lr, Value.float FloatKind.f64 hhr]); refine (tr _).mono ?_; rintro e y3 ⟨rfl, w3⟩; have Y := Y.trans (w3.mono Y.size)))
  have A := A.below Y
  have Z := Z.trans (Y.mono Z.size)
  have T := tabW_below hT Z
  clear k0 j0 k1 j1 k2 j2 k3 j3 k4 j4 k5 j5 k6 j6 k7 j7 Y B0 B1 B2 B3 B4 B5 B6 B7
  obtain ⟨xa0, xa1, _⟩ := A
  have A : Bx y3 w.heap.size (.float .f64 a) (.float .f64 b) := ⟨xa0, xa1, by assumption⟩
  go_wp2_with (first
    | (go_at_call 24; refine (dw1 _ T).mono ?_; rintro e z0 ⟨rfl, o0⟩; have A := A.below o0; have xa0 := A.1; have xa1 := A.2.1; have Z := Z.trans (o0.mono Z.size); have T := tabW_below hT Z)
    | (go_at_call 25; refine (dw2 _ T).mono ?_; rintro e z1 ⟨rfl, o1⟩; have A := A.below o1; have xa0 := A.1; have xa1 := A.2.1; have Z := Z.trans (o1.mono Z.size); have T := tabW_below hT Z)
    | (go_at_call 26; refine (dm1 _ T).mono ?_; rintro e z2 ⟨rfl, o2⟩; have A := A.below o2; have xa0 := A.1; have xa1 := A.2.1; have Z := Z.trans (o2.mono Z.size); have T := tabW_below hT Z)
    | (go_at_call 27; refine (dm2 _ T).mono ?_; rintro e z3 ⟨rfl, o3⟩; have A := A.below o3; have xa0 := A.1; have xa1 := A.2.1; have Z := Z.trans (o3.mono Z.size); have T := tabW_below hT Z)
    | (go_at_call 28; refine (dz1 _ T).mono ?_; rintro e z4 ⟨rfl, o4⟩; have A := A.below o4; have xa0 := A.1; have xa1 := A.2.1; have Z := Z.trans (o4.mono Z.size); have T := tabW_below hT Z)
    | (go_at_call 29; refine (dz2 _ T).mono ?_; rintro e z5 ⟨rfl, o5⟩; have A := A.below o5; have xa0 := A.1; have xa1 := A.2.1; have Z := Z.trans (o5.mono Z.size); have T := tabW_below hT Z)
    | (go_at_call_of 30 (Value.float FloatKind.f64 fw); refine (sw _).mono ?_; rintro e w' ⟨rfl, rfl⟩)
    | (go_at_call_of 30 (Value.float FloatKind.f64 fm); refine (sm _).mono ?_; rintro e w' ⟨rfl, rfl⟩)
    | (go_at_call_of 30 (Value.float FloatKind.f64 fz); refine (sz _).mono ?_; rintro e w' ⟨rfl, rfl⟩))
  go_ret
  exact ⟨rfl, Z⟩
end Go.Proofs.YtiaeannkkjhkaaaGreatDoor
