/- The document's Add, Sub, Mul, Div and Sqrt of any narrow floats, call by call; NarrowReckons: the walk. -/
import Derived.Test.YtekejddblgkcgaaDoorTo10
namespace Go.Proofs.YtekejddblgkcgaaDoor
open Go.RowKit

theorem odd_lt {s r : Nat} (hs : s < 18446744073709551616) : oddF s r < 18446744073709551616 := by
  unfold oddF
  by_cases c : nanB s = true ∨ nanB r = true ∨ rung r = 0 ∨ finB s = false ∨ rung s % 2 = 1
  · rw [if_pos c]; exact hs
  · rw [if_neg c]
    have nv : nanB s = false := by cases hn : nanB s; rfl; exact absurd (Or.inl hn) c
    cases decide (0 < place r)
    · exact (next_dn nv).2.2
    · exact (next_up nv).2.2
theorem FAdd : FourOp .add := Or.inl rfl
theorem FSub : FourOp .sub := Or.inr (Or.inl rfl)
theorem FMul : FourOp .mul := Or.inr (Or.inr (Or.inl rfl))
theorem FQuo : FourOp .quo := Or.inr (Or.inr (Or.inr rfl))
set_option maxHeartbeats 1000000 in
theorem r_add_any (a b : Nat) (ha : a < 4294967296) (hb : b < 4294967296) (w : World) :
    Calls Tryd.prog 13 #[.float .f32 a, .float .f32 b] w fun e w' => ∃ n, e = .returned (.float .f32 n) ∧ NS (opB .add a b) n ∧ Below w.heap.size w w' := by
  obtain ⟨c, w1, e1, hc, b1⟩ := cv_ex a ha w
  obtain ⟨d, w2, e2, hd, b2⟩ := cv_ex b hb w1
  obtain ⟨s, w3, e3, hs, b3⟩ := op_ex FAdd c d w2
  obtain ⟨t, w4, e4, ht, b4⟩ := op_ex FSub s c w3
  obtain ⟨k, w5, e5, hk, b5⟩ := op_ex FSub s t w4
  obtain ⟨p, w6, e6, hp, b6⟩ := op_ex FSub c k w5
  obtain ⟨q, w7, e7, hq, b7⟩ := op_ex FSub d t w6
  obtain ⟨r, w8, e8, hr, b8⟩ := op_ex FAdd p q w7
  have d2 := b1.trans (b2.mono b1.size)
  have d3 := d2.trans (b3.mono d2.size)
  have d4 := d3.trans (b4.mono d3.size)
  have d5 := d4.trans (b5.mono d4.size)
  have d6 := d5.trans (b6.mono d5.size)
  have d7 := d6.trans (b7.mono d6.size)
  have d8 := d7.trans (b8.mono d7.size)
  have O := fun w => odd_any s r hs.1 hr.1 w
  have R := fun w => rto_any (oddF s r) 0 (odd_lt hs.1) w
  have fin : ∀ n, ToR (oddF s r) 0 n → NS (opB .add a b) n := fun n hn => add_NS hc hd hs ht hk hp hq hr hn
  generalize oddF s r = o at *
  clear hc hd hs ht hk hp hq hr b1 b2 b3 b4 b5 b6 b7 b8 d2 d3 d4 d5 d6 d7
  go_enter Tryd.func13, Tryd.ntmps13
  go_wp2_with (first | (go_at_call 35; refine (O _).mono ?_; rintro e w' ⟨rfl, rfl⟩) | (go_at_call 6; refine (R _).mono ?_; rintro e w9 ⟨n, rfl, hn, b9⟩))
  go_ret
  exact ⟨_, rfl, fin _ hn, d8.trans (b9.mono d8.size)⟩
set_option maxHeartbeats 1000000 in
theorem r_sub_any (a b : Nat) (ha : a < 4294967296) (hb : b < 4294967296) (w : World) :
    Calls Tryd.prog 15 #[.float .f32 a, .float .f32 b] w fun e w' => ∃ n, e = .returned (.float .f32 n) ∧ NS (opB .sub a b) n ∧ Below w.heap.size w w' := by
  have hu : ∀ b, Op.unary .neg (.float .f32 b) = pure (.float .f32 (Op.negFloat .f32 b)) := fun _ => rfl
  have A := fun w => r_add_any a (Op.negFloat .f32 b) ha (neg32 hb).1 w
  rw [sub_add hb] at A
  go_enter Tryd.func15, Tryd.ntmps15
  go_wp2_with (first | (go_at_call 13; refine (A _).mono ?_; rintro e w9 ⟨n, rfl, hn, b9⟩))
  go_ret
  exact ⟨_, rfl, hn, b9⟩
set_option maxHeartbeats 1000000 in
theorem r_mul_any (a b : Nat) (ha : a < 4294967296) (hb : b < 4294967296) (w : World) :
    Calls Tryd.prog 17 #[.float .f32 a, .float .f32 b] w fun e w' => ∃ n, e = .returned (.float .f32 n) ∧ NS (opB .mul a b) n ∧ Below w.heap.size w w' := by
  obtain ⟨c, w1, e1, hc, b1⟩ := cv_ex a ha w
  obtain ⟨d, w2, e2, hd, b2⟩ := cv_ex b hb w1
  obtain ⟨s, w3, e3, hs, b3⟩ := op_ex FMul c d w2
  have d2 := b1.trans (b2.mono b1.size)
  have d3 := d2.trans (b3.mono d2.size)
  have hcv := conv64
  have R := fun w => rto_any s 0 hs.1 w
  have fin : ∀ n, ToR s 0 n → NS (opB .mul a b) n := fun n hn => by
    rw [opB_of FMul hc hd] at hs
    exact ToR_NS hs (fun v h => opB_nan FMul h) hn
  clear hc hd hs b1 b2 b3 d2
  go_enter Tryd.func17, Tryd.ntmps17
  go_wp2_with (first | (go_at_call 6; refine (R _).mono ?_; rintro e w9 ⟨n, rfl, hn, b9⟩))
  go_ret
  exact ⟨_, rfl, fin _ hn, d3.trans (b9.mono d3.size)⟩
theorem q_zero {q : Nat} (hq : q < 18446744073709551616) (nq : nanB q = false) : (FloatKind.f64.format.order q 0 == some .eq) = decide (rung q = 0) := by
  rw [eq_num hq (by omega) nq (by decide), decide_eq_decide]
  unfold place
  rw [show sgn 0 = false from rfl, show rung 0 = 0 from rfl]
  simp only [Bool.false_eq_true, if_false]
  split <;> omega
theorem fin_nan {q : Nat} (h : finB q = true) : nanB q = false := rung_nan (by have := fin_rung h; omega)
set_option maxHeartbeats 2000000 in
theorem r_div_any (a b : Nat) (ha : a < 4294967296) (hb : b < 4294967296) (w : World) :
    Calls Tryd.prog 19 #[.float .f32 a, .float .f32 b] w fun e w' => ∃ n, e = .returned (.float .f32 n) ∧ NS (opB .quo a b) n ∧ Below w.heap.size w w' := by
  obtain ⟨c, w1, e1, hc, b1⟩ := cv_ex a ha w
  obtain ⟨d, w2, e2, hd, b2⟩ := cv_ex b hb w1
  obtain ⟨q, w3, e3, hq, b3⟩ := op_ex FQuo c d w2
  have d2 := b1.trans (b2.mono b1.size)
  have d3 := d2.trans (b3.mono d2.size)
  have R := fun w => rto_any q 0 hq.1 w
  have fin : ∀ n, ToR q 0 n → NS (opB .quo a b) n := fun n hn => by
    have hq' := hq
    rw [opB_of FQuo hc hd] at hq'
    exact ToR_NS hq' (fun v h => opB_nan FQuo h) hn
  have Fq := fun w => rfinite_any q hq.1 w
  have Fc := fun w => rfinite_any c hc.1 w
  have Fd := fun w => rfinite_any d hd.1 w
  clear b1 b2 b3 d2
  by_cases all : finB q = true ∧ rung q ≠ 0 ∧ finB c = true ∧ finB d = true
  · obtain ⟨fq, q0, fc, fd⟩ := all
    have nq := fin_nan fq
    have nd := fin_nan fd
    have z0 := q_zero hq.1 nq
    rw [decide_eq_false q0] at z0
    rw [fq] at Fq
    rw [fc] at Fc
    rw [fd] at Fd
    have Gq := fin'_of hq.1 fq
    have Gc := fin'_of hc.1 fc
    have Gd := fin'_of hd.1 fd
    obtain ⟨gn, gv, gr⟩ := neg_vZ Gq
    obtain ⟨f, f1, f2, f3⟩ := fma_some (E := 1074) rfl gn Gd Gc
    have hfm := run_fma _ _ _ f f1
    have hu : ∀ b, Op.unary .neg (.float .f64 b) = pure (.float .f64 (Op.negFloat .f64 b)) := fun _ => rfl
    have fl := (neg_place f2).2.2
    have frung : rung (Op.negFloat .f64 f) = rung f := by
      have hr : ∀ y, rung y = (place y).natAbs := fun y => by unfold place; split <;> omega
      rw [hr, hr, (neg_place f2).1, Int.natAbs_neg]
    have O1 := fun w => odd_any q f hq.1 f2 w
    have O2 := fun w => odd_any q (Op.negFloat .f64 f) hq.1 fl w
    have R1 := fun w => rto_any (oddF q f) 0 (odd_lt hq.1) w
    have R2 := fun w => rto_any (oddF q (Op.negFloat .f64 f)) 0 (odd_lt hq.1) w
    have fin1 : ∀ n, ToR (oddF q f) 0 n → NS (opB .quo a b) n := fun n hn => div_NS hc hd hq fq q0 fc fd f3 rfl hn
    have fin2 : ∀ n, ToR (oddF q (Op.negFloat .f64 f)) 0 n → NS (opB .quo a b) n := fun n hn => div_NS hc hd hq fq q0 fc fd f3 frung hn
    clear fin R Gq Gc Gd gn gv gr f1 f2 f3 fl frung hq hc hd nq nd q0 fq fc fd
    generalize oddF q f = o1 at *
    generalize oddF q (Op.negFloat .f64 f) = o2 at *
    cases hl : (FloatKind.f64.format.order d 0 == some .lt)
    · go_enter Tryd.func19, Tryd.ntmps19
      go_wp2_with (first | (go_at_call_of 26 (Value.float FloatKind.f64 q); refine (Fq _).mono ?_; rintro e w' ⟨rfl, rfl⟩) | (go_at_call_of 26 (Value.float FloatKind.f64 c); refine (Fc _).mono ?_; rintro e w' ⟨rfl, rfl⟩) | (go_at_call_of 26 (Value.float FloatKind.f64 d); refine (Fd _).mono ?_; rintro e w' ⟨rfl, rfl⟩) | (go_at_call 35; refine (O1 _).mono ?_; rintro e w' ⟨rfl, rfl⟩) | (go_at_call 6; refine (R1 _).mono ?_; rintro e w9 ⟨n, rfl, hn, b9⟩))
      go_ret
      exact ⟨_, rfl, fin1 _ hn, d3.trans (b9.mono d3.size)⟩
    · go_enter Tryd.func19, Tryd.ntmps19
      go_wp2_with (first | (go_at_call_of 26 (Value.float FloatKind.f64 q); refine (Fq _).mono ?_; rintro e w' ⟨rfl, rfl⟩) | (go_at_call_of 26 (Value.float FloatKind.f64 c); refine (Fc _).mono ?_; rintro e w' ⟨rfl, rfl⟩) | (go_at_call_of 26 (Value.float FloatKind.f64 d); refine (Fd _).mono ?_; rintro e w' ⟨rfl, rfl⟩) | (go_at_call 35; refine (O2 _).mono ?_; rintro e w' ⟨rfl, rfl⟩) | (go_at_call 6; refine (R2 _).mono ?_; rintro e w9 ⟨n, rfl, hn, b9⟩))
      go_ret
      exact ⟨_, rfl, fin2 _ hn, d3.trans (b9.mono d3.size)⟩
  · cases fq : finB q
    · rw [fq] at Fq
      clear all hq hc hd
      go_enter Tryd.func19, Tryd.ntmps19
      go_wp2_with (first | (go_at_call_of 26 (Value.float FloatKind.f64 q); refine (Fq _).mono ?_; rintro e w' ⟨rfl, rfl⟩) | (go_at_call_of 26 (Value.float FloatKind.f64 c); refine (Fc _).mono ?_; rintro e w' ⟨rfl, rfl⟩) | (go_at_call_of 26 (Value.float FloatKind.f64 d); refine (Fd _).mono ?_; rintro e w' ⟨rfl, rfl⟩) | (go_at_call 6; refine (R _).mono ?_; rintro e w9 ⟨n, rfl, hn, b9⟩))
      go_ret
      exact ⟨_, rfl, fin _ hn, d3.trans (b9.mono d3.size)⟩
    · rw [fq] at Fq
      have z0 := q_zero hq.1 (fin_nan fq)
      by_cases q0 : rung q = 0
      · rw [decide_eq_true q0] at z0
        clear all hq hc hd q0
        go_enter Tryd.func19, Tryd.ntmps19
        go_wp2_with (first | (go_at_call_of 26 (Value.float FloatKind.f64 q); refine (Fq _).mono ?_; rintro e w' ⟨rfl, rfl⟩) | (go_at_call_of 26 (Value.float FloatKind.f64 c); refine (Fc _).mono ?_; rintro e w' ⟨rfl, rfl⟩) | (go_at_call_of 26 (Value.float FloatKind.f64 d); refine (Fd _).mono ?_; rintro e w' ⟨rfl, rfl⟩) | (go_at_call 6; refine (R _).mono ?_; rintro e w9 ⟨n, rfl, hn, b9⟩))
        go_ret
        exact ⟨_, rfl, fin _ hn, d3.trans (b9.mono d3.size)⟩
      · rw [decide_eq_false q0] at z0
        cases fc : finB c
        · rw [fc] at Fc
          clear all hq hc hd q0
          go_enter Tryd.func19, Tryd.ntmps19
          go_wp2_with (first | (go_at_call_of 26 (Value.float FloatKind.f64 q); refine (Fq _).mono ?_; rintro e w' ⟨rfl, rfl⟩) | (go_at_call_of 26 (Value.float FloatKind.f64 c); refine (Fc _).mono ?_; rintro e w' ⟨rfl, rfl⟩) | (go_at_call_of 26 (Value.float FloatKind.f64 d); refine (Fd _).mono ?_; rintro e w' ⟨rfl, rfl⟩) | (go_at_call 6; refine (R _).mono ?_; rintro e w9 ⟨n, rfl, hn, b9⟩))
          go_ret
          exact ⟨_, rfl, fin _ hn, d3.trans (b9.mono d3.size)⟩
        · rw [fc] at Fc
          cases fd : finB d
          · rw [fd] at Fd
            clear all hq hc hd q0
            go_enter Tryd.func19, Tryd.ntmps19
            go_wp2_with (first | (go_at_call_of 26 (Value.float FloatKind.f64 q); refine (Fq _).mono ?_; rintro e w' ⟨rfl, rfl⟩) | (go_at_call_of 26 (Value.float FloatKind.f64 c); refine (Fc _).mono ?_; rintro e w' ⟨rfl, rfl⟩) | (go_at_call_of 26 (Value.float FloatKind.f64 d); refine (Fd _).mono ?_; rintro e w' ⟨rfl, rfl⟩) | (go_at_call 6; refine (R _).mono ?_; rintro e w9 ⟨n, rfl, hn, b9⟩))
            go_ret
            exact ⟨_, rfl, fin _ hn, d3.trans (b9.mono d3.size)⟩
          · exact absurd ⟨fq, q0, fc, fd⟩ all
set_option maxHeartbeats 2000000 in
theorem r_sqrt_any (a : Nat) (ha : a < 4294967296) (w : World) :
    Calls Tryd.prog 21 #[.float .f32 a] w fun e w' => ∃ n, e = .returned (.float .f32 n) ∧ NS (rootB a) n ∧ Below w.heap.size w w' := by
  obtain ⟨c, w1, e1, hc, b1⟩ := cv_ex a ha w
  have SQ := fun w => msqrt_all c w
  have fin : ∀ s n, NR (FloatKind.f64.format.sqrt c) s → ToR s 0 n → NS (rootB a) n := fun s n hs hn => by
    rw [rootB_of hc] at hs
    exact ToR_NS hs (fun v h => rootB_nan h) hn
  have hu : ∀ b, Op.unary .neg (.float .f64 b) = pure (.float .f64 (Op.negFloat .f64 b)) := fun _ => rfl
  have FF : ∀ s, NR (FloatKind.f64.format.sqrt c) s → finB s = true → rung s ≠ 0 → ∃ f, (∀ w, (callFunc 39 #[.float .f64 (Op.negFloat .f64 s), .float .f64 s, .float .f64 c]).run Tryd.prog w = .ok (.value (.float .f64 f)) w) ∧ (∀ w, Calls Tryd.prog 35 #[.float .f64 s, .float .f64 f] w fun e w' => e = .returned (.float .f64 (oddF s f)) ∧ w' = w) ∧ (∀ w, Calls Tryd.prog 6 #[.float .f64 (oddF s f), .int .i8 0] w fun e w' => ∃ n, e = .returned (.float .f32 n) ∧ ToR (oddF s f) 0 n ∧ Below w.heap.size w w') ∧ (∀ n, ToR (oddF s f) 0 n → NS (rootB a) n) := fun s hs fs s0 => by
    obtain ⟨fc, sc, c0⟩ := sqrt_fin hc.1 hs fs s0
    have Gs := fin'_of hs.1 fs
    have Gc := fin'_of hc.1 fc
    obtain ⟨gn, gv, gr⟩ := neg_vZ Gs
    obtain ⟨f, f1, f2, f3⟩ := fma_some (E := 1074) rfl gn Gs Gc
    exact ⟨f, run_fma _ _ _ f f1, fun w => odd_any s f hs.1 f2 w, fun w => rto_any (oddF s f) 0 (odd_lt hs.1) w, fun n hn => sqrt_NS hc hs fs s0 fc sc c0 f3 hn⟩
  go_enter Tryd.func21, Tryd.ntmps21
  go_upto_region 3 with (first | (go_at_call 41; refine (SQ _).mono ?_; rintro e w2 ⟨s, rfl, hs, b2⟩))
  have d2 := b1.trans (b2.mono b1.size)
  have Fs := fun w => rfinite_any s hs.1 w
  have R := fun w => rto_any s 0 hs.1 w
  have fin' := fin s
  clear fin b1 b2 SQ
  cases fs : finB s
  · rw [fs] at Fs
    go_wp2_with (first | (go_at_call 26; refine (Fs _).mono ?_; rintro e w' ⟨rfl, rfl⟩) | (go_at_call 6; refine (R _).mono ?_; rintro e w9 ⟨n, rfl, hn, b9⟩))
    go_ret
    exact ⟨_, rfl, fin' _ hs hn, d2.trans (b9.mono d2.size)⟩
  · rw [fs] at Fs
    have z0 := q_zero hs.1 (fin_nan fs)
    by_cases s0 : rung s = 0
    · rw [decide_eq_true s0] at z0
      clear s0
      go_wp2_with (first | (go_at_call 26; refine (Fs _).mono ?_; rintro e w' ⟨rfl, rfl⟩) | (go_at_call 6; refine (R _).mono ?_; rintro e w9 ⟨n, rfl, hn, b9⟩))
      go_ret
      exact ⟨_, rfl, fin' _ hs hn, d2.trans (b9.mono d2.size)⟩
    · rw [decide_eq_false s0] at z0
      obtain ⟨f, hfm, O, R1, fin1⟩ := FF s hs fs s0
      clear s0 FF R fin'
      generalize oddF s f = o at *
      go_wp2_with (first | (go_at_call 26; refine (Fs _).mono ?_; rintro e w' ⟨rfl, rfl⟩) | (go_at_call 35; refine (O _).mono ?_; rintro e w' ⟨rfl, rfl⟩) | (go_at_call 6; refine (R1 _).mono ?_; rintro e w9 ⟨n, rfl, hn, b9⟩))
      go_ret
      exact ⟨_, rfl, fin1 _ hn, d2.trans (b9.mono d2.size)⟩
set_option maxHeartbeats 2000000 in
theorem law_reckons (a b : Nat) (ha : a < 4294967296) (hb : b < 4294967296) (w : World) (_hT : TabW w) :
    Calls Tryd.prog 4 #[.float .f32 a, .float .f32 b] w fun e w' => e = .returned (.bool true) ∧ Below w.heap.size w w' := by
  have bz := Below.refl w.heap.size w
  go_enter Tryd.func4, Tryd.ntmps4
  go_wp2_with (first
    | (go_at_call 12; refine (n_add_any _ _ ha hb _).mono ?_; rintro e w3 ⟨n, rfl, hn, bn⟩; have bz := bz.trans (bn.mono bz.size))
    | (go_at_call 14; refine (n_sub_any _ _ ha hb _).mono ?_; rintro e w3 ⟨n, rfl, hn, bn⟩; have bz := bz.trans (bn.mono bz.size))
    | (go_at_call 16; refine (n_mul_any _ _ ha hb _).mono ?_; rintro e w3 ⟨n, rfl, hn, bn⟩; have bz := bz.trans (bn.mono bz.size))
    | (go_at_call 18; refine (n_div_any _ _ ha hb _).mono ?_; rintro e w3 ⟨n, rfl, hn, bn⟩; have bz := bz.trans (bn.mono bz.size))
    | (go_at_call 20; refine (n_sqrt_any _ ha _).mono ?_; rintro e w3 ⟨n, rfl, hn, bn⟩; have bz := bz.trans (bn.mono bz.size))
    | (go_at_call 13; refine (r_add_any _ _ ha hb _).mono ?_; rintro e w3 ⟨m, rfl, hm, bn⟩; have bz := bz.trans (bn.mono bz.size))
    | (go_at_call 15; refine (r_sub_any _ _ ha hb _).mono ?_; rintro e w3 ⟨m, rfl, hm, bn⟩; have bz := bz.trans (bn.mono bz.size))
    | (go_at_call 17; refine (r_mul_any _ _ ha hb _).mono ?_; rintro e w3 ⟨m, rfl, hm, bn⟩; have bz := bz.trans (bn.mono bz.size))
    | (go_at_call 19; refine (r_div_any _ _ ha hb _).mono ?_; rintro e w3 ⟨m, rfl, hm, bn⟩; have bz := bz.trans (bn.mono bz.size))
    | (go_at_call 21; refine (r_sqrt_any _ ha _).mono ?_; rintro e w3 ⟨m, rfl, hm, bn⟩; have bz := bz.trans (bn.mono bz.size))
    | (go_at_call 7; refine (l_bits_any _ _ hn.1 hm.1 _).mono ?_; rw [NS_same hn hm]; rintro e w' ⟨rfl, rfl⟩)
    | (go_at_call 11; refine (n_awake _).mono ?_; rintro e w' ⟨rfl, rfl⟩))
  go_ret
  exact ⟨rfl, bz⟩
end Go.Proofs.YtekejddblgkcgaaDoor
