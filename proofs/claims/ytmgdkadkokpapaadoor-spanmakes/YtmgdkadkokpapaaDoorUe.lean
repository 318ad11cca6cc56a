/- That the fixed answers of 'awake' (layer 5) are so. -/
import Derived.Test.YtmgdkadkokpapaaDoorUd
namespace Go.Proofs.YtmgdkadkokpapaaDoor
open Go.RowKit

def mulQ (a b : Nat) : Nat := (floatBits .mul .f64 a b).getD 0
def mulE (a b : Nat) : Nat := (FloatKind.f64.format.fma a b (negW (mulQ a b))).getD 0
def mulR (m : Int) (a b : Nat) : Nat := stepF (mulQ a b) (signF (mulE a b)) m
def quoQ (a b : Nat) : Nat := (floatBits .quo .f64 a b).getD 0
def quoE (a b : Nat) : Nat := (FloatKind.f64.format.fma (negW (quoQ a b)) b a).getD 0
def quoR (m : Int) (a b : Nat) : Nat := stepF (quoQ a b) (signF (quoE a b)) m
theorem mul_at (a b : Nat) (m : Int) (ha : Nat.blt a 18446744073709551616 = true) (hb : Nat.blt b 18446744073709551616 = true) (sa : someB a = true) (sb : someB b = true) (hq : floatBits .mul .f64 a b = some (mulQ a b)) (hql : Nat.blt (mulQ a b) 18446744073709551616 = true)
    (hc : (FloatKind.f64.format.order (rung (negW (mulQ a b))) 553942754166571008 == some .lt) = false) (hf : FloatKind.f64.format.fma a b (negW (mulQ a b)) = some (mulE a b)) (hfl : Nat.blt (mulE a b) 18446744073709551616 = true) : Tells3 55 a b m (mulR m a b) ∧ mulR m a b < 18446744073709551616 := by
  have ha' : a < 18446744073709551616 := by simpa using ha
  have hb' : b < 18446744073709551616 := by simpa using hb
  have hq' : mulQ a b < 18446744073709551616 := by simpa using hql
  exact ⟨sprod_in a b _ m ha' hb' (some_rung sa).1 (some_rung sb).1 (fun w => rmul_great a b _ _ m ha' hb' sa sb hq hq' hc hf (by simpa using hfl) w), stepF_lt _ _ hq'⟩
theorem quo_at (a b : Nat) (m : Int) (ha : Nat.blt a 18446744073709551616 = true) (hb : Nat.blt b 18446744073709551616 = true) (sa : someB a = true) (sb : someB b = true) (hq : floatBits .quo .f64 a b = some (quoQ a b)) (hql : Nat.blt (quoQ a b) 18446744073709551616 = true)
    (hc : (FloatKind.f64.format.order (rung a) 553942754166571008 == some .lt) = false) (hf : FloatKind.f64.format.fma (negW (quoQ a b)) b a = some (quoE a b)) (hfl : Nat.blt (quoE a b) 18446744073709551616 = true) (hb0 : (FloatKind.f64.format.order b 0 == some .lt) = false) : Tells3 73 a b m (quoR m a b) ∧ quoR m a b < 18446744073709551616 := by
  have ha' : a < 18446744073709551616 := by simpa using ha
  have hb' : b < 18446744073709551616 := by simpa using hb
  have hq' : quoQ a b < 18446744073709551616 := by simpa using hql
  exact ⟨squot_in a b _ m ha' (some_rung sa).1 (fun w => rdiv_great a b _ _ m ha' hb' sa sb hq hq' hc hf (by simpa using hfl) hb0 w), stepF_lt _ _ hq'⟩
theorem bstep {w a b : World} {o : Obj} (h : Below w.heap.size w a) (hb : Below (a.alloc o).heap.size (a.alloc o) b) : Below w.heap.size w b := h.trans ((old1 hb).mono h.size)
theorem aw5_add (w : World) : Calls Tryd.prog 13 #[spV 4607182418800017408 4611686018427387904, spV 4591870180066957722 4591870180066957722] w fun e w' => e = .returned (.tuple #[spV 4607632778762754457 4611911198408756429, .int .i64 0]) ∧ Below w.heap.size w w' := by
  refine sadd_of _ _ _ _ _ _ (by kernel_rfl) (by kernel_rfl) (fun w => ?_) (fun w => ?_) w
  · have h := radd_gen 4607182418800017408 4591870180066957722 1 (by omega) (by omega) (by kernel_rfl) (by kernel_rfl) w
    rw [show addV 4607182418800017408 4591870180066957722 1 = 4607632778762754457 by kernel_rfl] at h
    exact h
  · have h := radd_gen 4611686018427387904 4591870180066957722 2 (by omega) (by omega) (by kernel_rfl) (by kernel_rfl) w
    rw [show addV 4611686018427387904 4591870180066957722 2 = 4611911198408756429 by kernel_rfl] at h
    exact h
theorem aw5_mul (w : World) : Calls Tryd.prog 17 #[spV 13830554455654793216 4611686018427387904, spV 4613937818241073152 4616189618054758400] w fun e w' => e = .returned (.tuple #[spV 13839561654909534208 4620693217682128896, .int .i64 0]) ∧ Below w.heap.size w w' := by
  have h := smul_of 13830554455654793216 4611686018427387904 4613937818241073152 4616189618054758400 mulR (by kernel_rfl) (by kernel_rfl) (fun m x y hx hy => by
    rcases hx with rfl | rfl <;> rcases hy with rfl | rfl <;> exact mul_at _ _ m (by kernel_rfl) (by kernel_rfl) (by kernel_rfl) (by kernel_rfl) (by kernel_rfl) (by kernel_rfl) (by kernel_rfl) (by kernel_rfl) (by kernel_rfl)) w
  rw [show lsC mulR 13830554455654793216 4611686018427387904 4613937818241073152 4616189618054758400 = 13839561654909534208 by kernel_rfl, show grC mulR 13830554455654793216 4611686018427387904 4613937818241073152 4616189618054758400 = 4620693217682128896 by kernel_rfl] at h
  exact h
theorem aw5_div (w : World) : Calls Tryd.prog 27 #[spV 4607182418800017408 4607182418800017408, spV 4613937818241073152 4613937818241073152] w fun e w' => e = .returned (.tuple #[spV 4599676419421066581 4599676419421066582, .int .i64 0]) ∧ Below w.heap.size w w' := by
  have h := sdiv_of 4607182418800017408 4607182418800017408 4613937818241073152 4613937818241073152 quoR (by kernel_rfl) (by kernel_rfl) (by kernel_rfl) (fun m x y hx hy => by
    have hx' : x = 4607182418800017408 := by rcases hx with h | h <;> exact h
    have hy' : y = 4613937818241073152 := by rcases hy with h | h <;> exact h
    subst hx' hy'
    exact quo_at _ _ m (by kernel_rfl) (by kernel_rfl) (by kernel_rfl) (by kernel_rfl) (by kernel_rfl) (by kernel_rfl) (by kernel_rfl) (by kernel_rfl) (by kernel_rfl) (by kernel_rfl)) w
  rw [show lsC quoR 4607182418800017408 4607182418800017408 4613937818241073152 4613937818241073152 = 4599676419421066581 by kernel_rfl, show grC quoR 4607182418800017408 4607182418800017408 4613937818241073152 4613937818241073152 = 4599676419421066582 by kernel_rfl] at h
  exact h
theorem aw5_eql (w : World) : (binOp .eql 25 (.agg #[.float .f64 13839561654909534208, .float .f64 4620693217682128896]) (.agg #[.float .f64 13839561654909534208, .float .f64 4620693217682128896])).run Tryd.prog w = .ok (.bool true) w := by
  kernel_rfl
set_option maxRecDepth 100000 in
set_option maxHeartbeats 400000 in
theorem sawake (w : World) :
    Calls Tryd.prog 5 #[] w fun e w' => e = .returned (.bool true) ∧ Below w.heap.size w w' := by
  have hst := run_storef Tryd.prog
  have heq := aw5_eql
  have mk := fun w => smake_any 4607182418800017408 4611686018427387904 (by omega) (by omega) w
  rw [show nanB 4607182418800017408 = false by decide, show nanB 4611686018427387904 = false by decide, show sRt 4607182418800017408 4611686018427387904 = true by kernel_rfl] at mk
  simp only [Bool.or_self, Bool.false_eq_true, if_false, if_true] at mk
  have dz := fun w => sdiv_zero 4607182418800017408 4611686018427387904 0 4607182418800017408 (by kernel_rfl) (by kernel_rfl) (by kernel_rfl) w
  have s2 := fun w => shas_any 4607182418800017408 4611686018427387904 4611686018427387904 (by omega) w
  rw [show (sRt 4607182418800017408 4611686018427387904 && finB 4611686018427387904 && leF 4607182418800017408 4611686018427387904 && leF 4611686018427387904 4611686018427387904) = true by kernel_rfl] at s2
  have s3 := fun w => shas_any 4607182418800017408 4611686018427387904 4613937818241073152 (by omega) w
  rw [show (sRt 4607182418800017408 4611686018427387904 && finB 4613937818241073152 && leF 4607182418800017408 4613937818241073152 && leF 4613937818241073152 4611686018427387904) = false by kernel_rfl] at s3
  have o1 : (FloatKind.f64.format.order 4607632778762754457 4607632778762754458 == some .lt || FloatKind.f64.format.order 4607632778762754457 4607632778762754458 == some .eq) = true := by kernel_rfl
  have o2 : (FloatKind.f64.format.order 4611911198408756429 4611911198408756429 == some .gt || FloatKind.f64.format.order 4611911198408756429 4611911198408756429 == some .eq) = true := by kernel_rfl
  have o3 : (FloatKind.f64.format.order 4599676419421066581 4599676419421066582 == some .lt) = true := by kernel_rfl
  have o4 : (FloatKind.f64.format.order 13839561654909534208 13839561654909534208 == some .eq) = true := by kernel_rfl
  have o5 : (FloatKind.f64.format.order 4620693217682128896 4620693217682128896 == some .eq) = true := by kernel_rfl
  go_enter Tryd.func5, Tryd.ntmps5
  go_upto_region 2 with (go_at_call 6; refine (mk _).mono ?_; rintro e w1 ⟨rfl, b1⟩)
  go_upto_region 3 with (go_at_call 13; refine (aw5_add _).mono ?_; rintro e w2 ⟨rfl, b2⟩; have A2 := (Bx.new w1 _ _ _).below b2)
  go_upto_region 4 with (go_at_call 17; refine (aw5_mul _).mono ?_; rintro e w3 ⟨rfl, b3⟩; have A3 := (A2.alloc _).below b3; have B3 := (Bx.new w2 _ _ _).below b3; obtain ⟨a0, a1, _⟩ := A3.alloc (.cells #[.float .f64 13839561654909534208, .float .f64 4620693217682128896] 25))
  go_upto_region 5 with (go_at_call 27; refine (dz _).mono ?_; rintro e w4 ⟨rfl, b4⟩; have A4 := (A3.alloc _).below b4; have B4 := (B3.alloc _).below b4; have C4 := (Bx.new w3 _ _ _).below b4)
  go_upto_region 6 with (go_at_call 27; refine (aw5_div _).mono ?_; rintro e w5 ⟨rfl, b5⟩; have A5 := (A4.alloc _).below b5; have B5 := (B4.alloc _).below b5; have C5 := (C4.alloc _).below b5)
  clear mk dz A2 A3 A4 B3 B4 C4 a0 a1
  obtain ⟨x0, x1, _⟩ := A5.alloc (.cells #[.float .f64 4599676419421066581, .float .f64 4599676419421066582] 25)
  obtain ⟨y0, y1, _⟩ := B5.alloc (.cells #[.float .f64 4599676419421066581, .float .f64 4599676419421066582] 25)
  obtain ⟨z0, z1, _⟩ := C5.alloc (.cells #[.float .f64 4599676419421066581, .float .f64 4599676419421066582] 25)
  go_wp2_with (first
    | (go_at_call_of 24 (Value.float FloatKind.f64 4613937818241073152); refine (s3 _).mono ?_; rintro e w7 ⟨rfl, b7⟩)
    | (go_at_call_of 24 (Value.float FloatKind.f64 4611686018427387904); refine (s2 _).mono ?_; rintro e w6 ⟨rfl, b6⟩; obtain ⟨u0, u1, _⟩ := (A5.alloc _).below b6))
  go_ret
  exact ⟨rfl, (bstep (bstep (bstep (bstep (bstep b1 b2) b3) b4) b5) b6).trans (b7.mono (bstep (bstep (bstep (bstep (bstep b1 b2) b3) b4) b5) b6).size)⟩
end Go.Proofs.YtmgdkadkokpapaaDoor
