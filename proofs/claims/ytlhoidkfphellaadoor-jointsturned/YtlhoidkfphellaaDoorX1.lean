/- What holds of layer 3's laws answers of finite floats: on which side of a float the exact answer lies. -/
import Derived.Test.YtlhoidkfphellaaDoorY5
import Derived.Test.YtlhoidkfphellaaDoorZl
import Derived.Test.YtlhoidkfphellaaDoorDx
import Derived.Test.YtlhoidkfphellaaDoorHa
import Derived.Test.YtlhoidkfphellaaDoorY9
namespace Go.Proofs.YtlhoidkfphellaaDoor
open Go.RowKit

theorem one_vI : vI 4607182418800017408 = 2 ^ twP ∧ finB 4607182418800017408 = true ∧ rung 4607182418800017408 ≠ 0 ∧ sgn 4607182418800017408 = false ∧ mg (rung 4607182418800017408) = 4503599627370496 ∧ up (rung 4607182418800017408) = 1022 := by
  have hr : rung 4607182418800017408 = 4607182418800017408 := rung_small (by omega)
  have hs : sgn 4607182418800017408 = false := sgn_small (by omega)
  have hm : mg 4607182418800017408 = 4503599627370496 := by decide
  have hu : up 4607182418800017408 = 1022 := by decide
  refine ⟨?_, by decide, by rw [hr]; omega, hs, by rw [hr]; exact hm, by rw [hr]; exact hu⟩
  have e : vI 4607182418800017408 = ((mg 4607182418800017408 * 2 ^ up 4607182418800017408 : Nat) : Int) := by
    rw [mg_up]
    unfold vI
    rw [hs, hr]
    rfl
  obtain ⟨u, hu2⟩ : ∃ u, up 4607182418800017408 = u := ⟨_, rfl⟩
  rw [e, hm, hu2, show (4503599627370496 : Nat) = 2 ^ 52 by decide, ← Nat.pow_add, show 52 + u = twP by unfold twP; omega, pw_cast]
/-- A float, all NaN as one. -/
def itO (a : Nat) : Option Nat := if nanB a then none else some a
theorem it_NR {a : Nat} (ha : a < 18446744073709551616) : NR (itO a) a := by
  unfold itO
  cases h : nanB a
  · exact ⟨ha, rfl⟩
  · exact ⟨ha, h⟩
theorem it_inf {a : Nat} (ha : a < 18446744073709551616) (fa : finB a = false) : (nanB a = false ∧ Ieee.double.read a = .infinity (sgn a) ∧ a = Ieee.double.word (sgn a) 9218868437227405312) ∨ (nanB a = true ∧ ∃ s t, Ieee.double.read a = .nan s t) := by
  have hr : ¬ rung a < 9218868437227405312 := by unfold finB at fa; simpa using fa
  rw [read_eq a ha, if_neg hr]
  by_cases h : rung a = 9218868437227405312
  · left
    rw [if_pos h]
    refine ⟨rung_nan (by omega), rfl, ?_⟩
    rw [word_k _ (by omega), ← h]
    exact rung_of a ha
  · right
    rw [if_neg h]
    exact ⟨by unfold nanB; exact decide_eq_true (by omega), _, _, rfl⟩
theorem it_fin {a : Nat} (fa : finB a = true) : itO a = some a := by
  unfold itO
  rw [rung_nan (Nat.le_of_lt (fin_rung fa))]
  rfl
theorem word_self {a : Nat} (ha : a < 18446744073709551616) : Ieee.double.word (sgn a) (rung a) = a := by
  rw [word_k _ (by have := rung_lt a; omega), ← rung_of a ha]
theorem stepF_zero (x : Nat) (m : Int) : stepF x 0 m = x := by unfold stepF; simp
theorem addO_zero {a : Nat} (m : Int) (ha : a < 18446744073709551616) : addO a 0 m = itO a ∨ (NoughtB (addO a 0 m) ∧ NoughtB (itO a)) := by
  have f0 : finB 0 = true := by decide
  have v0 : vI 0 = 0 := by decide
  cases fa : finB a
  · left
    unfold addO itO
    rw [fa]
    simp only [Bool.false_and, Bool.false_eq_true, if_false]
    rcases it_inf ha fa with ⟨h1, h2, h3⟩ | ⟨h1, s, t, h2⟩
    · rw [h1]
      simp only [Bool.false_eq_true, if_false]
      exact add_inf_l ha (by rw [h3]; exact (word_rung _ (by omega)).1) (by omega) f0
    · rw [h1]
      exact op_nan (op := .add) (Or.inl rfl) ha (by omega) (Or.inl h1)
  · rw [it_fin fa]
    unfold addO
    rw [fa, f0]
    simp only [Bool.and_self, if_true]
    by_cases h0 : rung a = 0
    · right
      have va : vI a = 0 := by unfold vI; rw [h0, val_zero]; split <;> rfl
      obtain ⟨e1, e2⟩ := add_nought m ha (show 0 < 18446744073709551616 by omega) fa f0 (by rw [va, v0]; rfl)
      rw [e1]
      exact ⟨noughtF_is m ha e2, nought_is ha h0⟩
    · left
      have hv : vI a + vI 0 ≠ 0 := by rw [v0, Int.add_zero]; exact (vI_sign h0).1
      rw [add_fu m ha (by omega) fa f0 hv, v0, Int.add_zero, fu_self m ha fa h0]
theorem mulO_one {a : Nat} (m : Int) (ha : a < 18446744073709551616) : mulO a 4607182418800017408 m = itO a := by
  obtain ⟨o1, o2, o3, o4, o5, o6⟩ := one_vI
  have so : someB 4607182418800017408 = true := by unfold someB; rw [o2]; simpa using o3
  cases fa : finB a
  · have sa : someB a = false := by unfold someB; rw [fa]; rfl
    unfold mulO itO
    rw [sa]
    simp only [Bool.false_and, Bool.false_eq_true, if_false]
    rcases it_inf ha fa with ⟨h1, h2, h3⟩ | ⟨h1, s, t, h2⟩
    · rw [h1, (fbits_map _ _).2.2.1, h2, read_fin (by omega) o2, o5, o4]
      simp only [Bool.false_eq_true, if_false]
      show some (Ieee.double.word (sgn a ^^ false) 9218868437227405312) = some a
      rw [Bool.xor_false, ← h3]
    · rw [h1]
      exact op_nan (op := .mul) (Or.inr (Or.inr (Or.inl rfl))) ha (by omega) (Or.inl h1)
  · rw [it_fin fa]
    by_cases h0 : rung a = 0
    · have sa : someB a = false := by unfold someB; rw [fa, h0]; rfl
      unfold mulO
      rw [sa]
      simp only [Bool.false_and, Bool.false_eq_true, if_false]
      obtain ⟨p, hp⟩ : ∃ q, floatBits .mul .f64 a 4607182418800017408 = some q := by
        rw [(fbits_map a _).2.2.1, read_fin ha fa, read_fin (by omega) o2]
        exact ⟨_, rfl⟩
      obtain ⟨z1, z2⟩ := mul_nought ha (by omega) fa o2 (Or.inl h0) hp
      obtain ⟨q1, _⟩ := op_word (op := .mul) (Or.inr (Or.inr (Or.inl rfl))) hp
      rw [hp]
      have e1 := rung_of p q1
      have e2 := rung_of a ha
      rw [o4] at z2
      rw [z1, z2] at e1
      rw [h0] at e2
      rw [e1, e2]
      cases sgn a <;> rfl
    · have sa : someB a = true := by unfold someB; rw [fa]; simpa using h0
      unfold mulO
      rw [sa, so]
      simp only [Bool.and_self, if_true]
      rw [mul_fu m ha (by omega) sa so, o1, fu_self m ha fa h0]
theorem quo_one {a : Nat} (ha : a < 18446744073709551616) (fa : finB a = true) : floatBits .quo .f64 a 4607182418800017408 = some a := by
  obtain ⟨o1, o2, o3, o4, o5, o6⟩ := one_vI
  rw [(fbits_map _ _).2.2.2, read_fin ha fa, read_fin (by omega) o2, o5, o4, o6]
  simp only [Ieee.Datum.quotient]
  rw [if_neg (by omega), Bool.xor_false]
  simp only [Option.map_some, Ieee.Format.write, Option.some.injEq]
  have hl : Nat.log2 4503599627370496 = 52 := by decide
  rw [hl]
  by_cases h0 : rung a = 0
  · have m0 : mg (rung a) = 0 := by rw [h0]; decide
    rw [m0]
    simp only [Nat.zero_shiftLeft, Nat.zero_div, Nat.zero_mod, Nat.mul_zero]
    show Ieee.double.word (sgn a) 0 = a
    have := word_self ha
    rw [h0] at this
    exact this
  · obtain ⟨va, wa⟩ := vI_sign h0
    have hm : mg (rung a) ≠ 0 := by unfold mg; split <;> omega
    have hlt := mg_lt (rung a)
    have hlog : (mg (rung a)).log2 ≤ 52 := by
      have := (Nat.log2_lt hm (k := 53)).2 (by omega)
      omega
    obtain ⟨d, hd⟩ : ∃ d : Nat, 54 + 52 - (mg (rung a)).log2 = d + 52 ∧ 1 ≤ d := ⟨54 - (mg (rung a)).log2, by omega, by omega⟩
    rw [hd.1, Nat.shiftLeft_eq, Nat.pow_add, ← Nat.mul_assoc, show (2 : Nat) ^ 52 = 4503599627370496 by decide, Nat.mul_div_cancel _ (by omega), Nat.mul_mod_left]
    have hF : FlX (vI a) (Ieee.double.nearest (sgn a) (2 * (mg (rung a) * 2 ^ d) + ((0 : Nat) != 0).toNat) (-1074 + (up (rung a) : Int) - (-1074 + ((1022 : Nat) : Int)) - ((d + 52 : Nat) : Int) - 1)) := by
      refine near_fl _ _ _ (d + 1) (by omega) ?_ (fun _ => wa.symm) (fin_top rfl fa)
      have e : (vI a).natAbs = val (rung a) := by unfold vI; split <;> omega
      rw [e, ← mg_up, show (-1074 + (up (rung a) : Int) - (-1074 + ((1022 : Nat) : Int)) - ((d + 52 : Nat) : Int) - 1 + 1074 + ((d + 1 : Nat) : Int)).toNat = up (rung a) by omega, Nat.pow_succ]
      simp only [bne_self_eq_false, Bool.toNat_false, Nat.add_zero]
      generalize 2 ^ d = D
      generalize 2 ^ up (rung a) = U
      ac_rfl
    exact vI_inj hF.1 ha (nst_self (vI_rep a) hF.2.2.1) (by rw [nst_self (vI_rep a) hF.2.2.1]; exact va)
theorem divO_one {a : Nat} (m : Int) (ha : a < 18446744073709551616) : divO a 4607182418800017408 m = itO a := by
  obtain ⟨o1, o2, o3, o4, o5, o6⟩ := one_vI
  have so : someB 4607182418800017408 = true := by unfold someB; rw [o2]; simpa using o3
  cases fa : finB a
  · have sa : someB a = false := by unfold someB; rw [fa]; rfl
    unfold divO itO
    rw [sa]
    simp only [Bool.false_and, Bool.false_eq_true, if_false]
    rcases it_inf ha fa with ⟨h1, h2, h3⟩ | ⟨h1, s, t, h2⟩
    · rw [h1, (fbits_map _ _).2.2.2, h2, read_fin (by omega) o2, o4]
      simp only [Bool.false_eq_true, if_false]
      show some (Ieee.double.word (sgn a ^^ false) 9218868437227405312) = some a
      rw [Bool.xor_false, ← h3]
    · rw [h1]
      exact op_nan (op := .quo) (Or.inr (Or.inr (Or.inr rfl))) ha (by omega) (Or.inl h1)
  · rw [it_fin fa]
    have hq := quo_one ha fa
    cases sa : someB a
    · unfold divO
      rw [sa]
      simp only [Bool.false_and, Bool.false_eq_true, if_false]
      exact hq
    · unfold divO
      rw [sa, so]
      simp only [Bool.and_self, if_true]
      have eq : kQ a 4607182418800017408 = a := by unfold kQ; rw [hq]; rfl
      have eS : kS a 4607182418800017408 = 0 := by
        unfold kS
        rw [eq, fa, o4]
        simp only [if_true, Bool.false_eq_true, if_false]
        rw [exX_un (L := twP) rfl, vI_ng ha, o1, Int.neg_mul, Int.add_left_neg]
        rfl
      rw [eq, eS, stepF_zero]
theorem fuO_one {a : Nat} (m : Int) (ha : a < 18446744073709551616) : fuO a 4607182418800017408 0 m = itO a ∨ (NoughtB (fuO a 4607182418800017408 0 m) ∧ NoughtB (itO a)) := by
  obtain ⟨o1, o2, o3, o4, o5, o6⟩ := one_vI
  have f0 : finB 0 = true := by decide
  cases fa : finB a
  · left
    have sa : someB a = false := by unfold someB; rw [fa]; rfl
    have hm := mulO_one 0 ha
    unfold mulO at hm
    rw [sa] at hm
    simp only [Bool.false_and, Bool.false_eq_true, if_false] at hm
    unfold fuO fuI
    rw [fa, hm]
    simp only [Bool.false_and, Bool.false_eq_true, if_false]
    unfold itO
    rcases it_inf ha fa with ⟨h1, h2, h3⟩ | ⟨h1, s, t, h2⟩
    · rw [h1]
      simp only [Bool.false_eq_true, if_false]
      exact add_inf_l ha (by rw [h3]; exact (word_rung _ (by omega)).1) (by omega) f0
    · rw [h1]
      rfl
  · rw [it_fin fa]
    unfold fuO fuW
    rw [fa, o2, f0]
    simp only [Bool.and_self, if_true]
    have eX : exX a 4607182418800017408 0 = vI a * 2 ^ twP := by
      rw [exX_un (L := twP) rfl, o1, show vI 0 = 0 by decide, Int.zero_mul, Int.add_zero]
    rw [eX]
    by_cases h0 : rung a = 0
    · right
      have va : vI a = 0 := by unfold vI; rw [h0, val_zero]; split <;> rfl
      rw [if_pos (by rw [va, Int.zero_mul])]
      refine ⟨?_, nought_is ha h0⟩
      unfold noughtR
      split
      · exact Or.inl rfl
      · split
        · exact Or.inr rfl
        · exact Or.inl rfl
    · left
      rw [if_neg (fun h => (vI_sign h0).1 (neg_pw.2.1 h)), fu_self m ha fa h0]
theorem radd_any (a b : Nat) (m : Int) (ha : a < 18446744073709551616) (hb : b < 18446744073709551616) (w : World) :
    Calls Tryd.prog 28 #[.float .f64 a, .float .f64 b, .int .i8 m] w fun e w' => ∃ r, e = .returned (.float .f64 r) ∧ NR (addO a b m) r ∧ Below w.heap.size w w' := by
  unfold addO
  cases h : (finB a && finB b)
  · simp only [Bool.false_eq_true, if_false]
    refine (radd_inf a b m ha hb (by cases fa : finB a; exact Or.inl rfl; rw [fa] at h; exact Or.inr (by simpa using h)) w).mono ?_
    rintro e w' ⟨⟨r, rfl, h1⟩, h2⟩
    exact ⟨r, rfl, h1, h2⟩
  · have fa : finB a = true := by revert h; cases finB a <;> simp
    have fb : finB b = true := by revert h; cases finB b <;> simp
    simp only [if_true]
    refine (radd_gen a b m ha hb fa fb w).mono ?_
    rintro e w' ⟨rfl, rfl⟩
    exact ⟨_, rfl, ⟨addV_lt m ha hb fa fb, rfl⟩, Below.refl _ _⟩
end Go.Proofs.YtlhoidkfphellaaDoor

namespace Go.Proofs.YtlhoidkfphellaaDoor

theorem qd_sign {d : Dy} (h : rightB d = true) : qd d = sgD d * (sz d : Int) ∧ ((sgD d = 0 ∧ sz d = 0) ∨ (sgD d = 1 ∧ 0 < sz d) ∨ (sgD d = -1 ∧ 0 < sz d)) := by
  rcases right_cases h with rfl | ⟨hn, hc⟩
  · refine ⟨?_, Or.inl ⟨rfl, ?_⟩⟩
    · unfold qd; rw [show sv dy0 = 0 from rfl, show sgD dy0 = 0 from rfl, Int.zero_mul, Int.zero_mul]
    · unfold sz; rw [show vl dy0.mag = 0 from rfl, Nat.zero_mul]
  · have hv : vl d.mag ≠ 0 := vl_ne_last hn hc.2.2.1
    have hp : 0 < sz d := Nat.mul_pos (Nat.pos_of_ne_zero hv) (Nat.pow_pos (by omega))
    have hs : (sz d : Int) = (vl d.mag : Int) * 2 ^ (d.exp + 65536).toNat := by unfold sz; push_cast; rfl
    cases hg : d.neg
    · have e : sgD d = 1 := by unfold sgD; rw [if_neg hn, hg]; rfl
      refine ⟨?_, Or.inr (Or.inl ⟨e, hp⟩)⟩
      rw [e, hs, Int.one_mul]
      unfold qd sv
      rw [hg]; rfl
    · have e : sgD d = -1 := by unfold sgD; rw [if_neg hn, hg]; rfl
      refine ⟨?_, Or.inr (Or.inr ⟨e, hp⟩)⟩
      rw [e, hs]
      unfold qd sv
      rw [hg, if_pos rfl, Int.neg_mul, Int.neg_mul, Int.one_mul]

theorem cmp_val {a b : Dy} (ra : rightB a = true) (rb : rightB b = true) :
    sgI (qd a - qd b) = if sgD a ≠ sgD b then cmpI (sgD a) (sgD b) else if sgD a = 0 then 0 else sgD a * cmpI (sz a) (sz b) := by
  obtain ⟨qa, ha⟩ := qd_sign ra
  obtain ⟨qb, hb⟩ := qd_sign rb
  rw [qa, qb]
  generalize (sgD a) = x at *
  generalize (sgD b) = y at *
  generalize sz a = m at *
  generalize sz b = n at *
  clear qa qb ra rb
  rcases ha with ⟨rfl, rfl⟩ | ⟨rfl, hm⟩ | ⟨rfl, hm⟩ <;> rcases hb with ⟨rfl, rfl⟩ | ⟨rfl, hn⟩ | ⟨rfl, hn⟩ <;> simp [sgI, cmpI] <;> (repeat' split) <;> omega
end Go.Proofs.YtlhoidkfphellaaDoor

namespace Go.Proofs.YtlhoidkfphellaaDoor
open Go.RowKit

set_option maxHeartbeats 2000000 in
set_option maxRecDepth 100000 in
theorem Cmp_right (a b : Dy) (ao bo : Option Addr) (cap bcap : Nat) (w : World) (hr : LRow w ao a.mag) (hs : LRow w bo b.mag) (la : Lm a.mag) (lb : Lm b.mag) (ra : rightB a = true) (rb : rightB b = true) :
    Calls Tryd.prog 20 #[.agg #[.bool a.neg, .slice ao a.mag.length cap, .int .i64 a.exp], .agg #[.bool b.neg, .slice bo b.mag.length bcap, .int .i64 b.exp]] w fun e w' => e = .returned (.tuple #[.int .i64 (sgI (qd a - qd b)), .int .i64 0]) ∧ Below w.heap.size w w' := by
  rw [cmp_val ra rb]
  have cra := fun w' h => right_any a ao cap w' h la
  have crb := fun w' h => right_any b bo bcap w' h lb
  rw [ra] at cra
  rw [rb] at crb
  have xa := right_exp ra
  have xb := right_exp rb
  have csz := fun w' h h' (a0 : vl a.mag ≠ 0) (b0 : vl b.mag ≠ 0) => cmpSizes_any a b ao bo cap bcap w' h h' la lb xa.2.2 xb.2.2 a0 b0 xa.1 xa.2.1 xb.1 xb.2.1
  have csa := fun w' => sign_any a ao cap w'
  have csb := fun w' => sign_any b bo bcap w'
  obtain ⟨_, ha⟩ := qd_sign ra
  obtain ⟨_, hb⟩ := qd_sign rb
  have va : 0 < sz a → vl a.mag ≠ 0 := fun h h0 => by unfold sz at h; rw [h0, Nat.zero_mul] at h; omega
  have vb : 0 < sz b → vl b.mag ≠ 0 := fun h h0 => by unfold sz at h; rw [h0, Nat.zero_mul] at h; omega
  generalize sgD a = x at *
  generalize sgD b = y at *
  have bx : -1 ≤ x ∧ x ≤ 1 := by omega
  clear xa xb
  go_enter Tryd.func20, Tryd.ntmps20
  go_upto_region 1 with fail
  go_cut [7, 8, 9, 10, 11, 12, 13, 14] (fun _ _ _ _ _ _ _ s14 wx => s14 = .bool false ∧ Hd wx w.heap.size a ao cap ∧ Hd wx (w.heap.size + 1) b bo bcap ∧ Below w.heap.size w wx)
  case first =>
    go_wp2_with (first
      | (go_at_call_of 39 (Value.agg #[Value.bool a.neg, Value.slice ao a.mag.length cap, Value.int IntKind.i64 a.exp]); refine (cra _ ((hr.alloc _).alloc _)).mono ?_; rintro e w1 ⟨rfl, hb1⟩; obtain ⟨⟨c0, c1, c2⟩, ⟨d0, d1, d2⟩, _, _⟩ := box2 hb1; have ho1 := box2_old hb1)
      | (go_at_call_of 39 (Value.agg #[Value.bool b.neg, Value.slice bo b.mag.length bcap, Value.int IntKind.i64 b.exp]); refine (crb _ (hs.below ho1)).mono ?_; rintro e w2 ⟨rfl, hb2⟩))
    go_meet
    exact ⟨rfl, Hd.below ⟨c0, c1, c2, hr.below ho1⟩ hb2, Hd.below ⟨d0, d1, d2, hs.below ho1⟩ hb2, ho1.trans (hb2.mono ho1.size)⟩
  obtain ⟨rfl, Ha, Hb, hB⟩ := hcut
  obtain ⟨wq, hwq⟩ : ∃ wq, wq = wc := ⟨_, rfl⟩
  subst hwq
  go_upto_region 3 with fail
  go_cut [15, 16, 6] (fun _ _ s6 wx => s6 = .int .i64 x ∧ Hd wx w.heap.size a ao cap ∧ Hd wx (w.heap.size + 1) b bo bcap ∧ Below w.heap.size w wx)
  case first =>
    obtain ⟨a0, a1, a2, ar⟩ := Ha
    go_wp2_with (go_at_call 42; refine (csa _).mono ?_; rintro e w1 ⟨rfl, hb1⟩)
    go_meet
    exact ⟨rfl, Hd.below ⟨a0, a1, a2, ar⟩ hb1, Hb.below hb1, hB.trans (hb1.mono hB.size)⟩
  obtain ⟨rfl, Ha, Hb, hB⟩ := hcut
  obtain ⟨wq, hwq⟩ : ∃ wq, wq = wc := ⟨_, rfl⟩
  subst hwq
  go_upto_region 4 with fail
  go_cut [17, 18, 19, 20] (fun _ _ _ s20 wx => s20 = .bool (x != y) ∧ Hd wx w.heap.size a ao cap ∧ Hd wx (w.heap.size + 1) b bo bcap ∧ Below w.heap.size w wx)
  case first =>
    obtain ⟨a0, a1, a2, ar⟩ := Hb
    go_wp2_with (go_at_call 42; refine (csb _).mono ?_; rintro e w1 ⟨rfl, hb1⟩)
    go_meet
    exact ⟨rfl, Ha.below hb1, Hd.below ⟨a0, a1, a2, ar⟩ hb1, hB.trans (hb1.mono hB.size)⟩
  obtain ⟨rfl, Ha, Hb, hB⟩ := hcut
  obtain ⟨wq, hwq⟩ : ∃ wq, wq = wc := ⟨_, rfl⟩
  subst hwq
  obtain ⟨a0, a1, a2, ar⟩ := Ha
  obtain ⟨b0, b1, b2, br⟩ := Hb
  cases hxy : (x != y)
  · obtain rfl : x = y := by simpa using hxy
    cases h0 : (x == 0)
    · have hx0 : x ≠ 0 := by simpa using h0
      have hv1 := va (by omega)
      have hv2 := vb (by omega)
      have hm := cmpI_bd (sz a) (sz b)
      have hwr : IntKind.i64.wrap (x * cmpI (sz a) (sz b)) = x * cmpI (sz a) (sz b) := by
        have : x = 1 ∨ x = -1 := by omega
        rw [IntKind.wrap_i64]
        rcases this with h | h <;> rw [h] <;> omega
      clear ha hb va vb bx
      go_wp2_with (go_at_call 44; refine (csz _ ar br hv1 hv2).mono ?_; rintro e w1 ⟨rfl, hb1⟩)
      exact bodyPost_ret (v := .tuple #[.int .i64 (x * cmpI (sz a) (sz b)), .int .i64 0]) (by simp [results, Tryd.results20, go_sem]) rfl ⟨by first | rfl | (simp [hx0]; done), hB.trans (hb1.mono hB.size)⟩
    · have hx0 : x = 0 := by simpa using h0
      clear ha hb va vb bx
      go_wp2
      exact bodyPost_ret (v := .tuple #[.int .i64 0, .int .i64 0]) (by simp [results, Tryd.results20, go_sem]) rfl ⟨by first | rfl | (simp [hx0]; done), hB⟩
  · have e : x ≠ y := by simpa using hxy
    clear ha hb va vb bx
    go_wp2_with (first | (go_at_call 42; refine (csb _).mono ?_; rintro e w1 ⟨rfl, hb1⟩) | (go_at_call 43; refine (cmpInt_any _ _ _).mono ?_; rintro e w2 ⟨rfl, hw2⟩; subst hw2))
    exact bodyPost_ret (v := .tuple #[.int .i64 (cmpI x y), .int .i64 0]) (by simp [results, Tryd.results20, go_sem]) rfl ⟨rfl, hB.trans (hb1.mono hB.size)⟩
end Go.Proofs.YtlhoidkfphellaaDoor

namespace Go.Proofs.YtlhoidkfphellaaDoor
open Go.RowKit

/-- A right dyad of X units of 2^-2148. -/
def Fd (D : Dy) (X : Int) : Prop := rightB D = true ∧ Lm D.mag ∧ qd D = X * 2 ^ puH
theorem bl_sm {X : Int} {n : Nat} (h : X.natAbs < 2 ^ n) (hn : n ≤ 16384) : bl X.natAbs ≤ 16384 := by
  obtain ⟨G, hG⟩ : ∃ G : Nat, G = 16384 := ⟨_, rfl⟩
  rw [← hG] at hn ⊢
  exact bl_le_iff.2 (Nat.lt_of_lt_of_le h (pw_le hn))
theorem fd_of {a : Nat} (fa : finB a = true) : ∃ D, ofD a = (D, 0) ∧ Fd D (vI a * 2 ^ twP) := by
  obtain ⟨h1, h2, h3, h4⟩ := fq_qd fa (K := kV) rfl
  refine ⟨(ofD a).1, by rw [← h1], h2, h3, ?_⟩
  rw [h4, Int.mul_assoc, ← Int.pow_add, show twP + puH = kV from rfl]
theorem fd_dz {X : Int} (h : bl X.natAbs ≤ 16384) : Fd (dz X) X := dz_qd h rfl
theorem fd_add {D E : Dy} {X Y : Int} (h : Fd D X) (g : Fd E Y) (hb : bl (X + Y).natAbs ≤ 16384) : addD D E = (dz (X + Y), 0) := by
  unfold addD
  rw [h.1, g.1, h.2.2, g.2.2]
  simp only [Bool.and_self, if_true]
  rw [← Int.add_mul, shift_nrm, show (-65536 : Int) + (puH : Nat) = -2148 from rfl]
  exact dz_told hb
theorem fd_sub {D E : Dy} {X Y : Int} (h : Fd D X) (g : Fd E Y) (hb : bl (X - Y).natAbs ≤ 16384) : subD D E = (dz (X - Y), 0) := by
  unfold subD
  rw [h.1, g.1, h.2.2, g.2.2]
  simp only [Bool.and_self, if_true]
  rw [← Int.sub_mul, shift_nrm, show (-65536 : Int) + (puH : Nat) = -2148 from rfl]
  exact dz_told hb
theorem fd_mul {D E : Dy} {x y : Int} (h : Fd D (x * 2 ^ twP)) (g : Fd E (y * 2 ^ twP)) (hb : bl (x * y).natAbs ≤ 16384) : mulD D E = (dz (x * y), 0) := by
  unfold mulD
  rw [h.1, g.1, h.2.2, g.2.2]
  simp only [Bool.and_self, if_true]
  rw [show x * 2 ^ twP * 2 ^ puH * (y * 2 ^ twP * 2 ^ puH) = x * y * 2 ^ (kV + kV) by
    rw [Int.pow_add, show kV = twP + puH from rfl, Int.pow_add]
    generalize (2 : Int) ^ twP = P
    generalize (2 : Int) ^ puH = Q
    ac_rfl, shift_nrm, show (-131072 : Int) + ((kV + kV : Nat) : Int) = -2148 from rfl]
  exact dz_told hb
theorem fd_cmp {D E : Dy} {X Y : Int} (h : Fd D X) (g : Fd E Y) : sgI (qd D - qd E) = sgI (X - Y) := by
  rw [h.2.2, g.2.2, ← Int.sub_mul, sgI_pw]
theorem vI_bd {a : Nat} (fa : finB a = true) : ∃ V, V = 2098 ∧ (vI a).natAbs < 2 ^ V := by
  obtain ⟨V, hV⟩ : ∃ V : Nat, V = 2098 := ⟨_, rfl⟩
  exact ⟨V, hV, vI_lt fa hV⟩
/-- A box that may be written. -/
def Fzr (w : World) (p : Nat) : Prop := w.frozen? ⟨p, 0, none⟩ = false ∧ w.frozen? ⟨p, 1, none⟩ = false ∧ w.frozen? ⟨p, 2, none⟩ = false
theorem Fzr.below {w w1 : World} {p : Nat} (h : Fzr w p) (hp : p < w.heap.size) (hb : Below w.heap.size w w1) : Fzr w1 p := by
  obtain ⟨_, hf⟩ := oldc hb
  exact ⟨(hf _ _ hp).trans h.1, (hf _ _ hp).trans h.2.1, (hf _ _ hp).trans h.2.2⟩
theorem put3r {w : World} {p B : Nat} {a : Option Addr} {c : Nat} {D E : Dy} {ao : Option Addr} {cap : Nat} (h : Hd w p D ao cap) (hz : Fzr w p) (hr : LRow w a E.mag) (hf : Frs B a) (hp : p < B) :
    Hd (((w.setCell ⟨p, 0, none⟩ (.bool E.neg)).setCell ⟨p, 1, none⟩ (.slice a E.mag.length c)).setCell ⟨p, 2, none⟩ (.int .i64 E.exp)) p E a c ∧ Fzr (((w.setCell ⟨p, 0, none⟩ (.bool E.neg)).setCell ⟨p, 1, none⟩ (.slice a E.mag.length c)).setCell ⟨p, 2, none⟩ (.int .i64 E.exp)) p := by
  have s0 : (w.setCell ⟨p, 0, none⟩ (.bool E.neg)).cell? ⟨p, 0, none⟩ = some (.bool E.neg) := World.cell?_setCell_same w _ _ h.c0
  have s1 : (w.setCell ⟨p, 0, none⟩ (.bool E.neg)).cell? ⟨p, 1, none⟩ = some (.slice ao D.mag.length cap) := (World.cell?_setCell_other w _ _ _ (by simp)).trans h.c1
  have s2 : (w.setCell ⟨p, 0, none⟩ (.bool E.neg)).cell? ⟨p, 2, none⟩ = some (.int .i64 D.exp) := (World.cell?_setCell_other w _ _ _ (by simp)).trans h.c2
  have t0 := (World.cell?_setCell_other _ ⟨p, 1, none⟩ ⟨p, 0, none⟩ (.slice a E.mag.length c) (by simp)).trans s0
  have t1 := World.cell?_setCell_same _ _ (.slice a E.mag.length c) s1
  have t2 := (World.cell?_setCell_other _ ⟨p, 1, none⟩ ⟨p, 2, none⟩ (.slice a E.mag.length c) (by simp)).trans s2
  refine ⟨⟨(World.cell?_setCell_other _ _ _ _ (by simp)).trans t0, (World.cell?_setCell_other _ _ _ _ (by simp)).trans t1, World.cell?_setCell_same _ _ _ t2, ((hr.box hf hp _ _).box hf hp _ _).box hf hp _ _⟩, ?_⟩
  obtain ⟨f0, f1, f2⟩ := hz
  refine ⟨?_, ?_, ?_⟩ <;> simp [go_sem, f0, f1, f2]
end Go.Proofs.YtlhoidkfphellaaDoor

namespace Go.Proofs.YtlhoidkfphellaaDoor
open Go.RowKit

theorem bth3 {w W W' : World} (h : Below w.heap.size w W) (b : Below W.heap.size W W') : Below w.heap.size w W' := h.trans (b.mono h.size)
theorem bal (w : World) (o : Obj) : Below w.heap.size w (w.alloc o) := (Below.refl _ _).alloc (Nat.le_refl _) _
/-- Nine cells of three new boxes turned. -/
abbrev nineW (W : World) (n : Nat) (a b c d e f g h i : Value) : World := (((((((((W.setCell ⟨n, 0, none⟩ a).setCell ⟨n, 1, none⟩ b).setCell ⟨n, 2, none⟩ c).setCell ⟨n + 1, 0, none⟩ d).setCell ⟨n + 1, 1, none⟩ e).setCell ⟨n + 1, 2, none⟩ f).setCell ⟨n + 1 + 1, 0, none⟩ g).setCell ⟨n + 1 + 1, 1, none⟩ h).setCell ⟨n + 1 + 1, 2, none⟩ i).drew
theorem nine {W : World} {n : Nat} {o : Option Addr} {m : List Nat} (h : LRow W o m) (hf : Frs (n + 3) o) (a b c d e f g h' i : Value) : LRow (nineW W n a b c d e f g h' i) o m :=
  (((((((((h.box hf (by omega) _ _).box hf (by omega) _ _).box hf (by omega) _ _).box hf (by omega) _ _).box hf (by omega) _ _).box hf (by omega) _ _).box hf (by omega) _ _).box hf (by omega) _ _).box hf (by omega) _ _).drew
theorem nineB {w W : World} (hB : Below w.heap.size w W) (a b c d e f g h i : Value) : Below w.heap.size w (nineW W w.heap.size a b c d e f g h i) := by
  have k0 : w.heap.size ≤ w.heap.size := Nat.le_refl _
  have k1 : w.heap.size ≤ w.heap.size + 1 := by omega
  have k2 : w.heap.size ≤ w.heap.size + 1 + 1 := by omega
  exact (((((((((hB.setCell k0 _).setCell k0 _).setCell k0 _).setCell k1 _).setCell k1 _).setCell k1 _).setCell k2 _).setCell k2 _).setCell k2 _).drew
/-- Three new boxes of nothing. -/
theorem zero_three (w : World) : let o := Obj.cells #[.bool false, .slice none 0 0, .int .i64 0] 46
    let w0 := ((w.alloc o).alloc o).alloc o
    (Hd w0 w.heap.size dy0 none 0 ∧ Fzr w0 w.heap.size) ∧ (Hd w0 (w.heap.size + 1) dy0 none 0 ∧ Fzr w0 (w.heap.size + 1)) ∧ (Hd w0 (w.heap.size + 1 + 1) dy0 none 0 ∧ Fzr w0 (w.heap.size + 1 + 1)) := by
  refine ⟨⟨⟨?_, ?_, ?_, Or.inl rfl⟩, ?_, ?_, ?_⟩, ⟨⟨?_, ?_, ?_, Or.inl rfl⟩, ?_, ?_, ?_⟩, ⟨⟨?_, ?_, ?_, Or.inl rfl⟩, ?_, ?_, ?_⟩⟩
  all_goals first
    | (show _ = some (Value.bool false); go_simp)
    | (show _ = some (Value.slice none 0 0); go_simp)
    | (show _ = some (Value.int .i64 0); go_simp)
    | go_simp
end Go.Proofs.YtlhoidkfphellaaDoor

namespace Go.Proofs.YtlhoidkfphellaaDoor
open Go.RowKit

/-- Turned, where s says so. -/
def tnI (s : Bool) (x : Int) : Int := if s then -x else x
/-- Cells and marks of a box of three, behind a call. -/
theorem Hd.six {w w1 : World} {p : Nat} {d : Dy} {ao : Option Addr} {cap : Nat} (h : Hd w p d ao cap) (hz : Fzr w p) (hb : Below w.heap.size w w1) : Hd w1 p d ao cap ∧ Fzr w1 p := ⟨h.below hb, hz.below (World.block_lt_of_cell? w _ h.c0) hb⟩
theorem fz_new (w : World) (a b c : Value) : Fzr (w.alloc (.cells #[a, b, c] 46)) w.heap.size := ⟨by go_simp, by go_simp, by go_simp⟩
theorem not_neg {x : Nat} (hx : x < 18446744073709551616) (fx : finB x = true) (h : sgn x = false ∨ rung x = 0) : (FloatKind.f64.format.order x 0 == some .lt) = false := by
  have hr := fin_rung fx
  have nb : nanB x = false := rung_nan (by omega)
  rw [zero_lt hx, nb]
  unfold place
  rcases h with h | h
  · rw [h]; simp
  · rw [h]; cases sgn x <;> simp
theorem sgI_wrap (x : Int) : wrap64 (sgI x) = sgI x := by
  obtain ⟨h1, h2⟩ := sgI_bd x
  generalize sgI x = y at *
  unfold wrap64
  omega
theorem sgI_wrapn (x : Int) : wrap64 (-sgI x) = -sgI x := by
  obtain ⟨h1, h2⟩ := sgI_bd x
  generalize sgI x = y at *
  unfold wrap64
  omega
theorem put3n {w : World} {p : Nat} {a : Option Addr} {c : Nat} {D E : Dy} {ao : Option Addr} {cap : Nat} (h : Hd w p D ao cap) (hr : LRow w a E.mag) (hf : ∀ b off, a = some ⟨b, off, none⟩ → E.mag.length ≠ 0 → b ≠ p) :
    Hd (((w.setCell ⟨p, 0, none⟩ (.bool E.neg)).setCell ⟨p, 1, none⟩ (.slice a E.mag.length c)).setCell ⟨p, 2, none⟩ (.int .i64 E.exp)) p E a c := by
  have s0 : (w.setCell ⟨p, 0, none⟩ (.bool E.neg)).cell? ⟨p, 0, none⟩ = some (.bool E.neg) := World.cell?_setCell_same w _ _ h.c0
  have s1 : (w.setCell ⟨p, 0, none⟩ (.bool E.neg)).cell? ⟨p, 1, none⟩ = some (.slice ao D.mag.length cap) := (World.cell?_setCell_other w _ _ _ (by simp)).trans h.c1
  have s2 : (w.setCell ⟨p, 0, none⟩ (.bool E.neg)).cell? ⟨p, 2, none⟩ = some (.int .i64 D.exp) := (World.cell?_setCell_other w _ _ _ (by simp)).trans h.c2
  have t0 := (World.cell?_setCell_other _ ⟨p, 1, none⟩ ⟨p, 0, none⟩ (.slice a E.mag.length c) (by simp)).trans s0
  have t1 := World.cell?_setCell_same _ _ (.slice a E.mag.length c) s1
  have t2 := (World.cell?_setCell_other _ ⟨p, 1, none⟩ ⟨p, 2, none⟩ (.slice a E.mag.length c) (by simp)).trans s2
  exact ⟨(World.cell?_setCell_other _ _ _ _ (by simp)).trans t0, (World.cell?_setCell_other _ _ _ _ (by simp)).trans t1, World.cell?_setCell_same _ _ _ t2, ((hr.setCell _ hf).setCell _ hf).setCell _ hf⟩
theorem row_lt {w : World} {o : Option Addr} {m : List Nat} (h : LRow w o m) : ∀ b off, o = some ⟨b, off, none⟩ → m.length ≠ 0 → b < w.heap.size := fun b off e h0 => by
  rcases h with h | ⟨b', off', e', hc⟩
  · exact absurd h h0
  · rw [e] at e'
    cases e'
    exact World.block_lt_of_cell? w _ (hc 0 (by omega))
/-- A box behind three stores into another. -/
theorem Hd.oth {w : World} {p q : Nat} {d : Dy} {ao : Option Addr} {cap : Nat} (h : Hd w p d ao cap) (hne : p ≠ q) (v0 v1 v2 : Value) (hr : LRow (((w.setCell ⟨q, 0, none⟩ v0).setCell ⟨q, 1, none⟩ v1).setCell ⟨q, 2, none⟩ v2) ao d.mag) : Hd (((w.setCell ⟨q, 0, none⟩ v0).setCell ⟨q, 1, none⟩ v1).setCell ⟨q, 2, none⟩ v2) p d ao cap := by
  have hadd : ∀ i j : Nat, (⟨q, j, none⟩ : Addr) ≠ ⟨p, i, none⟩ := fun i j e => hne (by injection e with e1; exact e1.symm)
  have k : ∀ (i : Nat) (x : Value), w.cell? ⟨p, i, none⟩ = some x → (((w.setCell ⟨q, 0, none⟩ v0).setCell ⟨q, 1, none⟩ v1).setCell ⟨q, 2, none⟩ v2).cell? ⟨p, i, none⟩ = some x := fun i x hx => by
    rw [World.cell?_setCell_other _ _ _ _ (hadd i 2), World.cell?_setCell_other _ _ _ _ (hadd i 1), World.cell?_setCell_other _ _ _ _ (hadd i 0)]
    exact hx
  exact ⟨k _ _ h.c0, k _ _ h.c1, k _ _ h.c2, hr⟩
theorem Fzr.set {w : World} {p : Nat} (h : Fzr w p) (q : Nat) (v0 v1 v2 : Value) : Fzr (((w.setCell ⟨q, 0, none⟩ v0).setCell ⟨q, 1, none⟩ v1).setCell ⟨q, 2, none⟩ v2) p := by
  obtain ⟨h0, h1, h2⟩ := h
  exact ⟨by go_simp, by go_simp, by go_simp⟩
theorem three_box3 {w : World} {X Y Z : Dy} {ax ay az : Option Addr} {cx cy cz : Nat} (rx : LRow w ax X.mag) (ry : LRow w ay Y.mag) (rz : LRow w az Z.mag) :
    let W := ((w.alloc (.cells #[.bool X.neg, .slice ax X.mag.length cx, .int .i64 X.exp] 46)).alloc (.cells #[.bool Y.neg, .slice ay Y.mag.length cy, .int .i64 Y.exp] 46)).alloc (.cells #[.bool Z.neg, .slice az Z.mag.length cz, .int .i64 Z.exp] 46)
    Hd W w.heap.size X ax cx ∧ Hd W (w.heap.size + 1) Y ay cy ∧ Hd W (w.heap.size + 1 + 1) Z az cz ∧ W.heap.size = w.heap.size + 3 ∧ Below w.heap.size w W := by
  have h1 := ((Hd.new (d := X) (cap := cx) rx).below (bal _ (.cells #[.bool Y.neg, .slice ay Y.mag.length cy, .int .i64 Y.exp] 46))).below (bal _ (.cells #[.bool Z.neg, .slice az Z.mag.length cz, .int .i64 Z.exp] 46))
  have h2 := (Hd.new (d := Y) (cap := cy) (ry.alloc (.cells #[.bool X.neg, .slice ax X.mag.length cx, .int .i64 X.exp] 46))).below (bal _ (.cells #[.bool Z.neg, .slice az Z.mag.length cz, .int .i64 Z.exp] 46))
  have h3 := Hd.new (d := Z) (cap := cz) ((rz.alloc (.cells #[.bool X.neg, .slice ax X.mag.length cx, .int .i64 X.exp] 46)).alloc (.cells #[.bool Y.neg, .slice ay Y.mag.length cy, .int .i64 Y.exp] 46))
  refine ⟨h1, ?_, ?_, by simp, bth3 (bth3 (bal _ _) (bal _ _)) (bal _ _)⟩
  · simpa using h2
  · simpa using h3
end Go.Proofs.YtlhoidkfphellaaDoor
