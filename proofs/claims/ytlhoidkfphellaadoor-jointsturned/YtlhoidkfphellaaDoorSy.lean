/- What round's five operations answer by Nearest: what floats themselves do. Where no error is too little to be told by floats. -/
import Derived.Test.YtlhoidkfphellaaDoorSx
namespace Go.Proofs.YtlhoidkfphellaaDoor
open Go.RowKit

theorem fbits_map (x y : Nat) : (floatBits .add .f64 x y = ((Ieee.double.read x).sum (Ieee.double.read y)).map Ieee.double.write) ∧ (floatBits .sub .f64 x y = ((Ieee.double.read x).sum (Ieee.double.read y).opposite).map Ieee.double.write) ∧ (floatBits .mul .f64 x y = ((Ieee.double.read x).product (Ieee.double.read y)).map Ieee.double.write) ∧ (floatBits .quo .f64 x y = ((Ieee.double.read x).quotient 54 (Ieee.double.read y)).map Ieee.double.write) := ⟨rfl, rfl, rfl, rfl⟩
theorem prod_nan {x y d : Ieee.Datum} (h : x.product y = some d) : d.isNaN = false := by
  unfold Ieee.Datum.product at h
  split at h
  · cases h
  · cases h
  · cases h; rfl
  · split at h
    · cases h
    · cases h; rfl
  · split at h
    · cases h
    · cases h; rfl
  · cases h; rfl
theorem quot_nan {n : Nat} {x y d : Ieee.Datum} (h : x.quotient n y = some d) : d.isNaN = false := by
  unfold Ieee.Datum.quotient at h
  split at h
  · cases h
  · cases h
  · cases h
  · cases h; rfl
  · cases h; rfl
  · split at h
    · split at h
      · cases h
      · cases h; rfl
    · cases h; rfl
theorem root_nan {n : Nat} {x d : Ieee.Datum} (h : x.root n = some d) : d.isNaN = false := by
  unfold Ieee.Datum.root at h
  split at h
  · cases h
  · split at h
    · cases h
    · cases h; rfl
  · split at h
    · cases h; rfl
    · split at h
      · cases h
      · cases h; rfl
/-- The four operations. -/
def FourOp (op : BinOp) : Prop := op = .add ∨ op = .sub ∨ op = .mul ∨ op = .quo
theorem op_word {op : BinOp} (hop : FourOp op) {a b r : Nat} (h : floatBits op .f64 a b = some r) : r < 18446744073709551616 ∧ rung r ≤ 9218868437227405312 := by
  rcases hop with rfl | rfl | rfl | rfl
  · exact add_word h
  · exact sum_word (fun _ h => sum_nan h) (show ((Ieee.double.read a).sum (Ieee.double.read b).opposite).map Ieee.double.write = some r from h)
  · exact sum_word (fun _ h => prod_nan h) (show ((Ieee.double.read a).product (Ieee.double.read b)).map Ieee.double.write = some r from h)
  · exact sum_word (fun _ h => quot_nan h) (show ((Ieee.double.read a).quotient 54 (Ieee.double.read b)).map Ieee.double.write = some r from h)
theorem sqrt_word {a r : Nat} (h : FloatKind.f64.format.sqrt a = some r) : r < 18446744073709551616 ∧ rung r ≤ 9218868437227405312 :=
  sum_word (fun _ h => root_nan h) (show ((Ieee.double.read a).root 54).map Ieee.double.write = some r from h)
theorem fma_word {a b c r : Nat} (h : FloatKind.f64.format.fma a b c = some r) : r < 18446744073709551616 ∧ rung r ≤ 9218868437227405312 :=
  sum_word (o := ((Ieee.double.read a).product (Ieee.double.read b)).bind (·.sum (Ieee.double.read c))) (fun d h => by
    cases hp : (Ieee.double.read a).product (Ieee.double.read b) with
    | none => rw [hp] at h; cases h
    | some e => rw [hp] at h; exact sum_nan h) h
theorem rung_nan {r : Nat} (h : rung r ≤ 9218868437227405312) : nanB r = false := by unfold nanB; simpa using h
theorem read_nan {x : Nat} (hx : x < 18446744073709551616) (nx : nanB x = true) : ∃ s t, Ieee.double.read x = .nan s t := by
  have h : 9218868437227405312 < rung x := by simpa [nanB] using nx
  rw [read_eq x hx, if_neg (by omega), if_neg (by omega)]
  exact ⟨_, _, rfl⟩
/-- With a NaN there is no answer. -/
theorem op_nan {op : BinOp} (hop : FourOp op) {a b : Nat} (ha : a < 18446744073709551616) (hb : b < 18446744073709551616) (h : nanB a = true ∨ nanB b = true) : floatBits op .f64 a b = none := by
  obtain ⟨f1, f2, f3, f4⟩ := fbits_map a b
  rcases h with h | h
  · obtain ⟨s, t, e⟩ := read_nan ha h
    rcases hop with rfl | rfl | rfl | rfl
    · rw [f1, e]; cases Ieee.double.read b <;> rfl
    · rw [f2, e]; cases Ieee.double.read b <;> rfl
    · rw [f3, e]; cases Ieee.double.read b <;> rfl
    · rw [f4, e]; cases Ieee.double.read b <;> rfl
  · obtain ⟨s, t, e⟩ := read_nan hb h
    rcases hop with rfl | rfl | rfl | rfl
    · rw [f1, e]; cases Ieee.double.read a <;> rfl
    · rw [f2, e]; cases Ieee.double.read a <;> rfl
    · rw [f3, e]; cases Ieee.double.read a <;> rfl
    · rw [f4, e]; cases Ieee.double.read a <;> rfl
theorem run_nan4 {P : Program} {op : BinOp} (hop : FourOp op) (t : TypeId) (x y : Nat) (h : floatBits op .f64 x y = none) (w : World) : (binOp op t (.float .f64 x) (.float .f64 y)).run P w = .ok (.float .f64 (nanW x y w)) w.drew := by
  rcases hop with rfl | rfl | rfl | rfl
  · exact run_nan .add (Or.inr rfl) t x y h w
  · exact run_nan .sub (Or.inl rfl) t x y h w
  · have h' : Ieee.double.mul x y = none := h
    simp [binOp, Op.floatArith, fmt64, h', Question.forced, nanW]
  · have h' : Ieee.double.div x y = none := h
    simp [binOp, Op.floatArith, fmt64, h', Question.forced, nanW]
theorem run_op4 {P : Program} {op : BinOp} (hop : FourOp op) (t : TypeId) (x y : Nat) (w : World) : (binOp op t (.float .f64 x) (.float .f64 y)).run P w = .ok (.float .f64 (opR op x y w)) (opW op x y w) := by
  unfold opR opW
  cases h : floatBits op .f64 x y with
  | none => exact run_nan4 hop t x y h w
  | some r => exact run_float_arith w op t .f64 x y r h
theorem op_NR {op : BinOp} (hop : FourOp op) {a b : Nat} (w : World) : NR (floatBits op .f64 a b) (opR op a b w) := by
  unfold opR NR
  cases h : floatBits op .f64 a b with
  | none => exact ⟨(nanW_nan a b w).2, (nanW_nan a b w).1⟩
  | some r => exact ⟨(op_word hop h).1, rfl⟩
/-- By Nearest nothing is stepped. -/
theorem stepF_near (x : Nat) (r : Int) : stepF x r 0 = x := by
  unfold stepF dnB upB
  simp
theorem addV_near {a b : Nat} (ha : a < 18446744073709551616) (hb : b < 18446744073709551616) (fa : finB a = true) (fb : finB b = true) : addV a b 0 = sumN a b := by
  obtain ⟨h1, _, _, h4, _, _, h7⟩ := sum_parts ha hb fa fb
  unfold addV addM
  rw [stepF_near]
  by_cases h0 : rung (sumN a b) = 0
  · rw [show (rung (sumN a b) == 0) = true by simpa using h0]
    rw [if_pos rfl]
    have hf : floatBits .add .f64 a b = some (sumN a b) := h1
    have hof := rung_of (sumN a b) h4
    have hoa := rung_of a ha
    rw [h0] at hof
    unfold noughtF
    cases hs : (sgn a == sgn b)
    · -- of unlike signs: a nought that is not below
      rw [if_neg (by simp), if_neg (by decide)]
      have hs' : (sgn a && sgn b) = false := by revert hs; cases sgn a <;> cases sgn b <;> simp
      have hsg : sgn (sumN a b) = false := by
        rw [(fbits_map a b).1, read_fin ha fa, read_fin hb fb, sum_val] at hf
        simp only [Option.map_some, Ieee.Format.write, Option.some.injEq] at hf
        generalize Ieee.signed (sgn a) (mg (rung a)) (up (rung a) - min (up (rung a)) (up (rung b))) + Ieee.signed (sgn b) (mg (rung b)) (up (rung b) - min (up (rung a)) (up (rung b))) = T at hf
        by_cases t0 : T = 0
        · rw [if_pos t0, hs', t0] at hf
          have e0 : Ieee.double.nearest false (Int.natAbs 0) (-1074 + ((min (up (rung a)) (up (rung b)) : Nat) : Int)) = 0 := rfl
          rw [e0] at hf
          rw [← hf]; decide
        · exfalso
          obtain ⟨q, hq0, hq, e⟩ := nearest_ne (s := (if T = 0 then sgn a && sgn b else decide (T < 0))) (p := -1074 + ((min (up (rung a)) (up (rung b)) : Nat) : Int)) (Int.natAbs_ne_zero.2 t0) (by omega)
          rw [e] at hf
          rw [← hf, (word_rung _ (by omega)).1] at h0
          exact hq0 h0
      rw [hsg] at hof
      simpa using hof.symm
    · rw [if_pos rfl]
      have hs2 : sgn a = sgn b := by simpa using hs
      obtain ⟨za, zb⟩ := h7 h0 hs2
      rw [za] at hoa
      have hsg : sgn (sumN a b) = sgn a := by
        rw [(fbits_map a b).1, read_fin ha fa, read_fin hb fb, za, zb, sum_val] at hf
        have t0 : Ieee.signed (sgn a) (mg 0) (up 0 - min (up 0) (up 0)) + Ieee.signed (sgn b) (mg 0) (up 0 - min (up 0) (up 0)) = 0 := by cases sgn a <;> cases sgn b <;> rfl
        rw [t0, ← hs2] at hf
        simp only [Option.map_some, Ieee.Format.write, Option.some.injEq, if_true, Bool.and_self] at hf
        have e0 : ∀ s, Ieee.double.nearest s (Int.natAbs 0) (-1074 + ((min (up 0) (up 0) : Nat) : Int)) = Ieee.double.word s 0 := fun s => rfl
        rw [e0] at hf
        rw [← hf, (word_rung _ (by omega)).2]
      rw [hsg] at hof
      rw [hof]; exact hoa
  · rw [show (rung (sumN a b) == 0) = false by simpa using h0]
    rfl
theorem radd_near (a b : Nat) (ha : a < 18446744073709551616) (hb : b < 18446744073709551616) (w : World) :
    Calls Tryd.prog 28 #[.float .f64 a, .float .f64 b, .int .i8 0] w fun e w' => ∃ r, e = .returned (.float .f64 r) ∧ NR (floatBits .add .f64 a b) r ∧ Below w.heap.size w w' := by
  by_cases hf : finB a = true ∧ finB b = true
  · refine (radd_gen a b 0 ha hb hf.1 hf.2 w).mono ?_
    rintro e w' ⟨rfl, rfl⟩
    obtain ⟨h1, _, _, h4, _, _, _⟩ := sum_parts ha hb hf.1 hf.2
    rw [h1]
    exact ⟨_, rfl, ⟨by rw [addV_near ha hb hf.1 hf.2]; exact h4, addV_near ha hb hf.1 hf.2⟩, Below.refl _ _⟩
  · have hf' : finB a = false ∨ finB b = false := by
      cases h1 : finB a
      · exact Or.inl rfl
      · cases h2 : finB b
        · exact Or.inr rfl
        · exact absurd ⟨h1, h2⟩ hf
    refine (radd_inf a b 0 ha hb hf' w).mono ?_
    rintro e w' ⟨⟨r, rfl, hN⟩, h⟩
    exact ⟨_, rfl, hN, h⟩
/-- A number times a number, and one more added: told, unless infinities meet. -/
theorem fma_told {x y z : Nat} (hx : x < 18446744073709551616) (hy : y < 18446744073709551616) (hz : z < 18446744073709551616) (rx : rung x ≤ 9218868437227405312) (fy : finB y = true) (y0 : rung y ≠ 0) (fz : finB z = true) : ∃ f, FloatKind.f64.format.fma x y z = some f := by
  show ∃ f, (((Ieee.double.read x).product (Ieee.double.read y)).bind (·.sum (Ieee.double.read z))).map Ieee.double.write = some f
  rw [read_fin hy fy, read_fin hz fz]
  have m0 : mg (rung y) ≠ 0 := by unfold mg; split <;> omega
  cases fx : finB x
  · have hi : rung x = 9218868437227405312 := by unfold finB at fx; simp at fx; omega
    rw [read_eq x hx, if_neg (by omega), if_pos hi]
    simp only [Ieee.Datum.product]
    rw [if_neg m0]
    exact ⟨_, rfl⟩
  · rw [read_fin hx fx]
    exact ⟨_, rfl⟩
theorem fma_told2 {x y z : Nat} (hx : x < 18446744073709551616) (hy : y < 18446744073709551616) (hz : z < 18446744073709551616) (fx : finB x = true) (fy : finB y = true) (rz : rung z ≤ 9218868437227405312) : ∃ f, FloatKind.f64.format.fma x y z = some f := by
  show ∃ f, (((Ieee.double.read x).product (Ieee.double.read y)).bind (·.sum (Ieee.double.read z))).map Ieee.double.write = some f
  rw [read_fin hy fy, read_fin hx fx]
  cases fz : finB z
  · have hi : rung z = 9218868437227405312 := by unfold finB at fz; simp at fz; omega
    rw [read_eq z hz, if_neg (by omega), if_pos hi]
    exact ⟨_, rfl⟩
  · rw [read_fin hz fz]
    exact ⟨_, rfl⟩
theorem calm_test {z : Nat} (h : 553942754166571008 ≤ rung z) (hr : rung z ≤ 9218868437227405312) : (FloatKind.f64.format.order (rung z) 553942754166571008 == some .lt) = false := by
  have hs := rung_lt z
  rw [lt_num (by omega) (by omega) (nan_small (by omega)) (by decide), place_small (by omega), place_small (by omega)]
  exact decide_eq_false (by omega)
theorem not_some {a : Nat} (h : someB a = false) : finB a = false ∨ rung a = 0 := by
  unfold someB at h
  cases fa : finB a
  · exact Or.inl rfl
  · rw [fa] at h; simp at h; exact Or.inr h
end Go.Proofs.YtlhoidkfphellaaDoor
