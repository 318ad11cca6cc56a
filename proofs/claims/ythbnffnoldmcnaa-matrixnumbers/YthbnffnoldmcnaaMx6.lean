/- What Sub, Mul, Apply and Symmetric of the program answer. -/
import Derived.Test.YthbnffnoldmcnaaMx5
namespace Go.Proofs.Ythbnffnoldmcnaa
open Go.RowKit

set_option maxHeartbeats 2000000 in
theorem msub_any (r c : Int) (xs : List Nat) (r2 c2 : Int) (ys : List Nat) (ao bo : Option Addr) (cap cap2 : Nat) (w : World) (hr : GRow w ao xs) (hs : GRow w bo ys) (hF : FW xs) (hG : FW ys) :
    Calls Try.prog 30 #[mxV r c ao xs.length cap, mxV r2 c2 bo ys.length cap2] w fun e w' => GaveA w (sbA r c xs r2 c2 ys) e w' := by
  have c1 := fun w => mright_any r c ao xs.length cap w
  have c2' := fun w => mright_any r2 c2 bo ys.length cap2 w
  unfold sbA
  cases q1 : rightM r c xs.length
  · rw [q1] at c1
    rw [Bool.false_and, Bool.false_and, if_neg (by decide)]
    clear c2' hr hs hF hG q1
    generalize xs.length = n at *
    generalize ys.length = m at *
    go_enter Try.func30, Try.ntmps30
    go_wp2_with (go_at_call 19; refine (c1 _).mono ?_; rintro e w1 ⟨rfl, b1⟩; have bb := old_three b1; have MA := (((B3.new _ _ _ _ _).alloc _).alloc _).below b1; have MB := ((B3.newAt (n := w.heap.size + 1) (by go_simp) _ _ _ _).alloc _).below b1; have RB := (B3.newAt (n := w.heap.size + 1 + 1) (by go_simp) _ _ _ _).below b1; have a0 := MA.1; have a1 := MA.2.1; have a2 := MA.2.2.1; have d0 := MB.1; have d1 := MB.2.1; have d2 := MB.2.2.1; obtain ⟨t0, t1, t2, s0, s1, s2, hlt⟩ := id RB)
    exact bodyPost_ret (v := .tuple #[.agg #[.int .i64 0, .int .i64 0, .slice none 0 0], .int .i64 4]) (by simp [results, Try.results30, go_sem, t0, t1, t2]) rfl ⟨_, rfl, GaveF.none_put bb (by omega) _ _ _⟩
  cases q2 : rightM r2 c2 ys.length
  · rw [q1] at c1
    rw [q2] at c2'
    rw [Bool.true_and, Bool.false_and, if_neg (by decide)]
    clear hr hs hF hG q1 q2
    generalize xs.length = n at *
    generalize ys.length = m at *
    go_enter Try.func30, Try.ntmps30
    go_wp2_with (first | (go_at_call_of 19 (Value.agg #[Value.int IntKind.i64 r, Value.int IntKind.i64 c, Value.slice ao n cap]); refine (c1 _).mono ?_; rintro e w1 ⟨rfl, b1⟩; have bb := old_three b1; have MA := (((B3.new _ _ _ _ _).alloc _).alloc _).below b1; have MB := ((B3.newAt (n := w.heap.size + 1) (by go_simp) _ _ _ _).alloc _).below b1; have RB := (B3.newAt (n := w.heap.size + 1 + 1) (by go_simp) _ _ _ _).below b1; have a0 := MA.1; have a1 := MA.2.1; have a2 := MA.2.2.1; have d0 := MB.1; have d1 := MB.2.1; have d2 := MB.2.2.1; obtain ⟨t0, t1, t2, s0, s1, s2, hlt⟩ := id RB) | (go_at_call_of 19 (Value.agg #[Value.int IntKind.i64 r2, Value.int IntKind.i64 c2, Value.slice bo m cap2]); refine (c2' _).mono ?_; rintro e w2 ⟨rfl, b2⟩; have ca := bb.trans (b2.mono bb.size); replace MA := MA.below b2; replace MB := MB.below b2; replace RB := RB.below b2; have a0 := MA.1; have a1 := MA.2.1; have a2 := MA.2.2.1; have d0 := MB.1; have d1 := MB.2.1; have d2 := MB.2.2.1; obtain ⟨t0, t1, t2, s0, s1, s2, hlt⟩ := id RB))
    exact bodyPost_ret (v := .tuple #[.agg #[.int .i64 0, .int .i64 0, .slice none 0 0], .int .i64 4]) (by simp [results, Try.results30, go_sem, t0, t1, t2]) rfl ⟨_, rfl, GaveF.none_put ca (by omega) _ _ _⟩
  have c3 := fun w => malike_any r c r2 c2 ao bo xs.length cap ys.length cap2 w
  cases q3 : alikeM r c r2 c2
  · rw [q1] at c1
    rw [q2] at c2'
    rw [q3] at c3
    rw [Bool.true_and, if_neg (by decide)]
    clear hr hs hF hG q1 q2 q3
    generalize xs.length = n at *
    generalize ys.length = m at *
    go_enter Try.func30, Try.ntmps30
    go_wp2_with (first | (go_at_call_of 19 (Value.agg #[Value.int IntKind.i64 r, Value.int IntKind.i64 c, Value.slice ao n cap]); refine (c1 _).mono ?_; rintro e w1 ⟨rfl, b1⟩; have bb := old_three b1; have MA := (((B3.new _ _ _ _ _).alloc _).alloc _).below b1; have MB := ((B3.newAt (n := w.heap.size + 1) (by go_simp) _ _ _ _).alloc _).below b1; have RB := (B3.newAt (n := w.heap.size + 1 + 1) (by go_simp) _ _ _ _).below b1; have a0 := MA.1; have a1 := MA.2.1; have a2 := MA.2.2.1; have d0 := MB.1; have d1 := MB.2.1; have d2 := MB.2.2.1; obtain ⟨t0, t1, t2, s0, s1, s2, hlt⟩ := id RB) | (go_at_call_of 19 (Value.agg #[Value.int IntKind.i64 r2, Value.int IntKind.i64 c2, Value.slice bo m cap2]); refine (c2' _).mono ?_; rintro e w2 ⟨rfl, b2⟩; have ca := bb.trans (b2.mono bb.size); replace MA := MA.below b2; replace MB := MB.below b2; replace RB := RB.below b2; have a0 := MA.1; have a1 := MA.2.1; have a2 := MA.2.2.1; have d0 := MB.1; have d1 := MB.2.1; have d2 := MB.2.2.1; obtain ⟨t0, t1, t2, s0, s1, s2, hlt⟩ := id RB) | (go_at_call 60; refine (c3 _).mono ?_; rintro e w3 ⟨rfl, b3⟩; have cb := ca.trans (b3.mono ca.size); replace MA := MA.below b3; replace MB := MB.below b3; replace RB := RB.below b3; have a0 := MA.1; have a1 := MA.2.1; have a2 := MA.2.2.1; have d0 := MB.1; have d1 := MB.2.1; have d2 := MB.2.2.1; obtain ⟨t0, t1, t2, s0, s1, s2, hlt⟩ := id RB))
    exact bodyPost_ret (v := .tuple #[.agg #[.int .i64 0, .int .i64 0, .slice none 0 0], .int .i64 4]) (by simp [results, Try.results30, go_sem, t0, t1, t2]) rfl ⟨_, rfl, GaveF.none_put cb (by omega) _ _ _⟩
  rw [q1] at c1
  rw [q2] at c2'
  rw [q3] at c3
  obtain ⟨R, C, rfl, rfl, hR, hC, hl⟩ := rightM_nat q1
  obtain ⟨R2, C2, rfl, rfl, hR2, hC2, hm⟩ := rightM_nat q2
  obtain ⟨e1, e2⟩ : R = R2 ∧ C = C2 := by
    unfold alikeM at q3
    simp at q3
    omega
  subst e1 e2
  rw [Bool.true_and, Bool.true_and, if_pos rfl]
  simp only [Int.toNat_natCast]
  have cf := fun w1 (b1 : Below w.heap.size w w1) (hA : B3 w1 w.heap.size (.int .i64 R) (.int .i64 C) (.slice ao xs.length cap)) (hB : B3 w1 (w.heap.size + 1) (.int .i64 R) (.int .i64 C) (.slice bo ys.length cap2)) => mfill_sub (fun i j => opO .sub (enO C xs i j) (enO C ys i j)) R C w.heap.size (w.heap.size + 1) w1 hR hC (fun i j wr hi hj hb => sub1_all R C xs ys ao bo cap cap2 w.heap.size (w.heap.size + 1) i j wr (hr.below (b1.trans (hb.mono b1.size))) (hs.below (b1.trans (hb.mono b1.size))) hF hG hl hm hR hC hi hj (hA.below hb) (hB.below hb))
  generalize tabM R C (fun i j => opO .sub (enO C xs i j) (enO C ys i j)) = os at *
  clear q1 q2 q3 hl hm hr hs hF hG
  generalize xs.length = n at *
  generalize ys.length = m at *
  go_enter Try.func30, Try.ntmps30
  go_wp2_with (first
    | (go_at_call_of 19 (Value.agg #[Value.int IntKind.i64 (R : Int), Value.int IntKind.i64 (C : Int), Value.slice ao n cap]); refine (c1 _).mono ?_; rintro e w1 ⟨rfl, b1⟩; have bb := old_three b1; have MA := (((B3.new _ _ _ _ _).alloc _).alloc _).below b1; have MB := ((B3.newAt (n := w.heap.size + 1) (by go_simp) _ _ _ _).alloc _).below b1; have RB := (B3.newAt (n := w.heap.size + 1 + 1) (by go_simp) _ _ _ _).below b1; have a0 := MA.1; have a1 := MA.2.1; have a2 := MA.2.2.1; have d0 := MB.1; have d1 := MB.2.1; have d2 := MB.2.2.1; obtain ⟨t0, t1, t2, s0, s1, s2, hlt⟩ := id RB)
    | (go_at_call_of 19 (Value.agg #[Value.int IntKind.i64 (R : Int), Value.int IntKind.i64 (C : Int), Value.slice bo m cap2]); refine (c2' _).mono ?_; rintro e w2 ⟨rfl, b2⟩; have ca := bb.trans (b2.mono bb.size); replace MA := MA.below b2; replace MB := MB.below b2; replace RB := RB.below b2; have a0 := MA.1; have a1 := MA.2.1; have a2 := MA.2.2.1; have d0 := MB.1; have d1 := MB.2.1; have d2 := MB.2.2.1; obtain ⟨t0, t1, t2, s0, s1, s2, hlt⟩ := id RB)
    | (go_at_call 60; refine (c3 _).mono ?_; rintro e w3 ⟨rfl, b3⟩; have cb := ca.trans (b3.mono ca.size); replace MA := MA.below b3; replace MB := MB.below b3; replace RB := RB.below b3; have a0 := MA.1; have a1 := MA.2.1; have a2 := MA.2.2.1; have d0 := MB.1; have d1 := MB.2.1; have d2 := MB.2.2.1; obtain ⟨t0, t1, t2, s0, s1, s2, hlt⟩ := id RB)
    | (go_at_call 46; refine (cf _ cb MA MB).mono ?_; rintro e w4 ⟨_, rfl, zo, zc, zs, rfl, hz⟩; have hv : GvL _ os zo zc zs w4 := hz; clear hz; obtain ⟨t0, t1, t2, s0, s1, s2, _⟩ := RB.below hv.2.2.2.2))
  exact bodyPost_ret (v := .tuple #[.agg #[.int .i64 R, .int .i64 C, .slice zo zs.length zc], .int .i64 0]) (by simp [results, Try.results30, go_sem, t0, t1, t2]) rfl ⟨_, rfl, hv.put cb (by omega) hlt _ _ _⟩
set_option maxHeartbeats 2000000 in
theorem mmul_any (r c : Int) (xs : List Nat) (r2 c2 : Int) (ys : List Nat) (ao bo : Option Addr) (cap cap2 : Nat) (w : World) (hr : GRow w ao xs) (hs : GRow w bo ys) (hF : FW xs) (hG : FW ys) :
    Calls Try.prog 13 #[mxV r c ao xs.length cap, mxV r2 c2 bo ys.length cap2] w fun e w' => GaveA w (mlA r c xs r2 c2 ys) e w' := by
  have c1 := fun w => mright_any r c ao xs.length cap w
  have c2' := fun w => mright_any r2 c2 bo ys.length cap2 w
  unfold mlA
  cases q1 : rightM r c xs.length
  · rw [q1] at c1
    rw [Bool.false_and, Bool.false_and, if_neg (by decide)]
    clear c2' hr hs hF hG q1
    generalize xs.length = n at *
    generalize ys.length = m at *
    go_enter Try.func13, Try.ntmps13
    go_wp2_with (go_at_call 19; refine (c1 _).mono ?_; rintro e w1 ⟨rfl, b1⟩; have bb := old_three b1; have MA := (((B3.new _ _ _ _ _).alloc _).alloc _).below b1; have MB := ((B3.newAt (n := w.heap.size + 1) (by go_simp) _ _ _ _).alloc _).below b1; have RB := (B3.newAt (n := w.heap.size + 1 + 1) (by go_simp) _ _ _ _).below b1; have a0 := MA.1; have a1 := MA.2.1; have a2 := MA.2.2.1; have d0 := MB.1; have d1 := MB.2.1; have d2 := MB.2.2.1; obtain ⟨t0, t1, t2, s0, s1, s2, hlt⟩ := id RB)
    exact bodyPost_ret (v := .tuple #[.agg #[.int .i64 0, .int .i64 0, .slice none 0 0], .int .i64 4]) (by simp [results, Try.results13, go_sem, t0, t1, t2]) rfl ⟨_, rfl, GaveF.none_put bb (by omega) _ _ _⟩
  cases q2 : rightM r2 c2 ys.length
  · rw [q1] at c1
    rw [q2] at c2'
    rw [Bool.true_and, Bool.false_and, if_neg (by decide)]
    clear hr hs hF hG q1 q2
    generalize xs.length = n at *
    generalize ys.length = m at *
    go_enter Try.func13, Try.ntmps13
    go_wp2_with (first | (go_at_call_of 19 (Value.agg #[Value.int IntKind.i64 r, Value.int IntKind.i64 c, Value.slice ao n cap]); refine (c1 _).mono ?_; rintro e w1 ⟨rfl, b1⟩; have bb := old_three b1; have MA := (((B3.new _ _ _ _ _).alloc _).alloc _).below b1; have MB := ((B3.newAt (n := w.heap.size + 1) (by go_simp) _ _ _ _).alloc _).below b1; have RB := (B3.newAt (n := w.heap.size + 1 + 1) (by go_simp) _ _ _ _).below b1; have a0 := MA.1; have a1 := MA.2.1; have a2 := MA.2.2.1; have d0 := MB.1; have d1 := MB.2.1; have d2 := MB.2.2.1; obtain ⟨t0, t1, t2, s0, s1, s2, hlt⟩ := id RB) | (go_at_call_of 19 (Value.agg #[Value.int IntKind.i64 r2, Value.int IntKind.i64 c2, Value.slice bo m cap2]); refine (c2' _).mono ?_; rintro e w2 ⟨rfl, b2⟩; have ca := bb.trans (b2.mono bb.size); replace MA := MA.below b2; replace MB := MB.below b2; replace RB := RB.below b2; have a0 := MA.1; have a1 := MA.2.1; have a2 := MA.2.2.1; have d0 := MB.1; have d1 := MB.2.1; have d2 := MB.2.2.1; obtain ⟨t0, t1, t2, s0, s1, s2, hlt⟩ := id RB))
    exact bodyPost_ret (v := .tuple #[.agg #[.int .i64 0, .int .i64 0, .slice none 0 0], .int .i64 4]) (by simp [results, Try.results13, go_sem, t0, t1, t2]) rfl ⟨_, rfl, GaveF.none_put ca (by omega) _ _ _⟩
  by_cases q3 : c = r2
  · rw [q1] at c1
    rw [q2] at c2'
    obtain ⟨R, C, rfl, rfl, hR, hC, hl⟩ := rightM_nat q1
    obtain ⟨C', D, e1, rfl, _, hD, hm⟩ := rightM_nat q2
    have e2 : C' = C := by omega
    subst e2
    clear e1
    subst q3
    rw [decide_eq_true rfl, Bool.true_and, Bool.true_and, if_pos rfl]
    simp only [Int.toNat_natCast]
    have cf := fun w1 (b1 : Below w.heap.size w w1) (hA : B3 w1 w.heap.size (.int .i64 R) (.int .i64 C') (.slice ao xs.length cap)) (hB : B3 w1 (w.heap.size + 1) (.int .i64 C') (.int .i64 D) (.slice bo ys.length cap2)) => mfill_mul (fun i j => muO C' D xs ys i j C') R D w.heap.size (w.heap.size + 1) w1 hR hD (fun i j wr hi hj hb => mul1_all R C' D xs ys ao bo cap cap2 w.heap.size (w.heap.size + 1) i j wr (hr.below (b1.trans (hb.mono b1.size))) (hs.below (b1.trans (hb.mono b1.size))) hF hG hl hm hR hC hD hi hj (hA.below hb) (hB.below hb))
    generalize tabM R D (fun i j => muO C' D xs ys i j C') = os at *
    clear q1 q2 hl hm hr hs hF hG
    generalize xs.length = n at *
    generalize ys.length = m at *
    have b9 : ((C' : Int) != (C' : Int)) = false := by simp
    go_enter Try.func13, Try.ntmps13
    go_wp2_with (first
      | (go_at_call_of 19 (Value.agg #[Value.int IntKind.i64 (R : Int), Value.int IntKind.i64 (C' : Int), Value.slice ao n cap]); refine (c1 _).mono ?_; rintro e w1 ⟨rfl, b1⟩; have bb := old_three b1; have MA := (((B3.new _ _ _ _ _).alloc _).alloc _).below b1; have MB := ((B3.newAt (n := w.heap.size + 1) (by go_simp) _ _ _ _).alloc _).below b1; have RB := (B3.newAt (n := w.heap.size + 1 + 1) (by go_simp) _ _ _ _).below b1; have a0 := MA.1; have a1 := MA.2.1; have a2 := MA.2.2.1; have d0 := MB.1; have d1 := MB.2.1; have d2 := MB.2.2.1; obtain ⟨t0, t1, t2, s0, s1, s2, hlt⟩ := id RB)
      | (go_at_call_of 19 (Value.agg #[Value.int IntKind.i64 (C' : Int), Value.int IntKind.i64 (D : Int), Value.slice bo m cap2]); refine (c2' _).mono ?_; rintro e w2 ⟨rfl, b2⟩; have ca := bb.trans (b2.mono bb.size); replace MA := MA.below b2; replace MB := MB.below b2; replace RB := RB.below b2; have a0 := MA.1; have a1 := MA.2.1; have a2 := MA.2.2.1; have d0 := MB.1; have d1 := MB.2.1; have d2 := MB.2.2.1; obtain ⟨t0, t1, t2, s0, s1, s2, hlt⟩ := id RB)
      | (go_at_call 46; refine (cf _ ca MA MB).mono ?_; rintro e w4 ⟨_, rfl, zo, zc, zs, rfl, hz⟩; have hv : GvL _ os zo zc zs w4 := hz; clear hz; obtain ⟨t0, t1, t2, s0, s1, s2, _⟩ := RB.below hv.2.2.2.2))
    exact bodyPost_ret (v := .tuple #[.agg #[.int .i64 R, .int .i64 D, .slice zo zs.length zc], .int .i64 0]) (by simp [results, Try.results13, go_sem, t0, t1, t2]) rfl ⟨_, rfl, hv.put ca (by omega) hlt _ _ _⟩
  · rw [q1] at c1
    rw [q2] at c2'
    rw [Bool.true_and, decide_eq_false q3, if_neg (by decide)]
    have b9 : (c != r2) = true := by simp [q3]
    clear hr hs hF hG q1 q2 q3
    generalize xs.length = n at *
    generalize ys.length = m at *
    go_enter Try.func13, Try.ntmps13
    go_wp2_with (first | (go_at_call_of 19 (Value.agg #[Value.int IntKind.i64 r, Value.int IntKind.i64 c, Value.slice ao n cap]); refine (c1 _).mono ?_; rintro e w1 ⟨rfl, b1⟩; have bb := old_three b1; have MA := (((B3.new _ _ _ _ _).alloc _).alloc _).below b1; have MB := ((B3.newAt (n := w.heap.size + 1) (by go_simp) _ _ _ _).alloc _).below b1; have RB := (B3.newAt (n := w.heap.size + 1 + 1) (by go_simp) _ _ _ _).below b1; have a0 := MA.1; have a1 := MA.2.1; have a2 := MA.2.2.1; have d0 := MB.1; have d1 := MB.2.1; have d2 := MB.2.2.1; obtain ⟨t0, t1, t2, s0, s1, s2, hlt⟩ := id RB) | (go_at_call_of 19 (Value.agg #[Value.int IntKind.i64 r2, Value.int IntKind.i64 c2, Value.slice bo m cap2]); refine (c2' _).mono ?_; rintro e w2 ⟨rfl, b2⟩; have ca := bb.trans (b2.mono bb.size); replace MA := MA.below b2; replace MB := MB.below b2; replace RB := RB.below b2; have a0 := MA.1; have a1 := MA.2.1; have a2 := MA.2.2.1; have d0 := MB.1; have d1 := MB.2.1; have d2 := MB.2.2.1; obtain ⟨t0, t1, t2, s0, s1, s2, hlt⟩ := id RB))
    exact bodyPost_ret (v := .tuple #[.agg #[.int .i64 0, .int .i64 0, .slice none 0 0], .int .i64 4]) (by simp [results, Try.results13, go_sem, t0, t1, t2]) rfl ⟨_, rfl, GaveF.none_put ca (by omega) _ _ _⟩
/-- Apply's answer. -/
def apA (r c : Int) (xs ys : List Nat) : List (Option Nat) × Int := ((mlA r c xs c 1 ys).os, (mlA r c xs c 1 ys).err)
set_option maxHeartbeats 1000000 in
theorem mapply_any (r c : Int) (xs ys : List Nat) (ao bo : Option Addr) (cap cap2 : Nat) (w : World) (hr : GRow w ao xs) (hs : GRow w bo ys) (hF : FW xs) (hG : FW ys) :
    Calls Try.prog 37 #[mxV r c ao xs.length cap, .slice bo ys.length cap2] w fun e w' => ∃ v, e = .returned (.tuple #[v, .int .i64 (apA r c xs ys).2]) ∧ GaveF w (apA r c xs ys).1 v w' := by
  have cm := fun w h1 h2 => mmul_any r c xs c 1 ys ao bo cap cap2 w h1 h2 hF hG
  unfold apA
  generalize mlA r c xs c 1 ys = A at *
  obtain ⟨A1, A2, A3, A4⟩ := A
  have hb := below_one w
  go_enter Try.func37, Try.ntmps37
  go_wp2_with (go_at_call 13; refine (cm _ (hr.below (hb _)) (hs.below (hb _))).mono ?_; rintro e w1 ⟨_, rfl, zo, zc, zs, rfl, hz⟩; have hv : GvL _ A3 zo zc zs w1 := hz; clear hz)
  have hG2 : ∀ o, GaveF w A3 (.slice zo zs.length zc) (w1.alloc o) := fun o => ⟨zo, zc, zs, rfl, hv.1, hv.2.1.below (below_one _ _), hv.2.2.1, hv.2.2.2.1.mono (by go_simp), (old_one hv.2.2.2.2).alloc (old_one hv.2.2.2.2).size _⟩
  exact bodyPost_ret (v := .tuple #[.slice zo zs.length zc, .int .i64 A4]) (by simp [results, Try.results37, go_sem]) rfl ⟨_, rfl, hG2 _⟩
/-- Is the matrix what it is turned over? -/
def symM (r c : Int) (xs : List Nat) : Bool := rightM r c xs.length && decide (r = c) && (List.range (r.toNat * r.toNat)).all fun p => sameB (xs.getD p 0) (xs.getD ((p % r.toNat) * r.toNat + p / r.toNat) 0)
theorem NR_toO {x y : Nat} (h : NR (toO x) y) (z : Nat) : sameB z y = sameB z x := by
  unfold toO at h
  cases hx : nanB x
  · rw [hx] at h
    have e : y = x := h.2
    rw [e]
  · rw [hx] at h
    have hy : nanB y = true := h.2
    unfold sameB
    rw [hx, hy]
    cases hz : nanB z
    · simp only [Bool.false_eq_true, if_false]
      rw [decide_eq_false (fun e => by subst e; rw [hz] at hy; cases hy), decide_eq_false (fun e => by subst e; rw [hz] at hx; cases hx)]
    · rfl
theorem sym_sameL {R : Nat} {xs zs : List Nat} (hl : xs.length = R * R) (h : LN (tabM R R (fun i j => enO R xs j i)) zs) : sameL xs zs = (List.range (R * R)).all fun p => sameB (xs.getD p 0) (xs.getD ((p % R) * R + p / R) 0) := by
  have hz : zs.length = R * R := by rw [h.1, tabM_len]
  unfold sameL
  rw [decide_eq_true (by rw [hl, hz]), Bool.true_and, hl]
  have hp : ∀ p, p ∈ List.range (R * R) → sameB (xs.getD p 0) (zs.getD p 0) = sameB (xs.getD p 0) (xs.getD ((p % R) * R + p / R) 0) := fun p hp => by
    have hp := List.mem_range.1 hp
    have h2 := h.2 p (by rw [tabM_len]; exact hp)
    unfold tabM at h2
    rw [tab_at hp] at h2
    exact NR_toO h2 _
  rw [Bool.eq_iff_iff, List.all_eq_true, List.all_eq_true]
  exact ⟨fun h p m => by rw [← hp p m]; exact h p m, fun h p m => by rw [hp p m]; exact h p m⟩
set_option maxHeartbeats 1000000 in
theorem msym_any (r c : Int) (xs : List Nat) (ao : Option Addr) (cap : Nat) (w : World) (hr : GRow w ao xs) (hF : FW xs) (hn : xs.length ≤ 1125899906842624) :
    Calls Try.prog 18 #[mxV r c ao xs.length cap] w fun e w' => e = .returned (.bool (symM r c xs)) ∧ Below w.heap.size w w' := by
  have ct := fun w h => mtrans_any r c xs ao cap w h hF
  have hb := below_one w
  unfold symM
  unfold trA at ct
  cases q1 : rightM r c xs.length
  · rw [q1] at ct
    rw [Bool.false_and, Bool.false_and]
    simp only [Bool.false_eq_true, if_false] at ct
    go_enter Try.func18, Try.ntmps18
    go_wp2_with (go_at_call 28; refine (ct _ (hr.below (hb _))).mono ?_; rintro e w1 ⟨_, rfl, zo, zc, zs, rfl, hz⟩; have hv : GvL _ [] zo zc zs w1 := hz; clear hz; have b1 := old_one hv.2.2.2.2)
    go_ret
    exact ⟨rfl, b1.alloc b1.size _⟩
  · rw [q1] at ct
    obtain ⟨R, C, rfl, rfl, hR, hC, hl⟩ := rightM_nat q1
    simp only [if_true, Int.toNat_natCast] at ct ⊢
    rw [Bool.true_and]
    obtain ⟨os, hos⟩ : ∃ os, tabM C R (fun i j => enO C xs j i) = os := ⟨_, rfl⟩
    rw [hos] at ct
    have cs := fun (zs : List Nat) (zo : Option Addr) (zc : Nat) w h1 h2 (hz : LN os zs) => msame_any R C xs C R zs ao zo cap zc w h1 h2 hF hz.fw hn (by rw [hz.1, ← hos, tabM_len]; have := mul48 hC hR; omega)
    have HE : Hid (∀ zs, LN os zs → sameM R C xs C R zs = (decide ((R : Int) = C) && (List.range (R * R)).all fun p => sameB (xs.getD p 0) (xs.getD ((p % R) * R + p / R) 0))) := fun zs hz => by
      unfold sameM alikeM
      by_cases e : R = C
      · subst e
        rw [decide_eq_true rfl, Bool.true_and, Bool.true_and, Bool.true_and]
        exact sym_sameL hl (by rw [hos]; exact hz)
      · rw [decide_eq_false (by omega : ¬ (R : Int) = C), Bool.false_and, Bool.false_and, Bool.false_and]
    generalize (decide ((R : Int) = C) && (List.range (R * R)).all fun p => sameB (xs.getD p 0) (xs.getD ((p % R) * R + p / R) 0)) = q at *
    clear q1 hl hos
    go_enter Try.func18, Try.ntmps18
    go_wp2_with (first
      | (go_at_call 28; refine (ct _ (hr.below (hb _))).mono ?_; rintro e w1 ⟨_, rfl, zo, zc, zs, rfl, hz⟩; have hv : GvL _ os zo zc zs w1 := hz; clear hz; have b1 := old_one hv.2.2.2.2; have b2 : ∀ o, Below w.heap.size w (w1.alloc o) := (fun o => b1.alloc b1.size _); have MB := ((B3.new _ _ _ _ _).below hv.2.2.2.2); have a0 := MB.1; have a1 := MB.2.1; have a2 := MB.2.2.1; have a0' := fun o => (MB.alloc o).1; have a1' := fun o => (MB.alloc o).2.1; have a2' := fun o => (MB.alloc o).2.2.1)
      | (go_at_call 25; refine (cs zs zo zc _ (hr.below (b2 _)) (hv.2.1.below (below_one _ _)) hv.1).mono ?_; rw [HE.out zs hv.1]; rintro e w3 ⟨rfl, b3⟩))
    go_ret
    exact ⟨rfl, (b2 _).trans (b3.mono (b2 _).size)⟩
end Go.Proofs.Ythbnffnoldmcnaa
