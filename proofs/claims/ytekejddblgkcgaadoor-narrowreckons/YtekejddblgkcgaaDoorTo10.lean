/- What comes of the document's Add, Sub, Mul, Div and Sqrt of any narrow floats: plain. -/
import Derived.Test.YtekejddblgkcgaaDoorTo9
namespace Go.Proofs.YtekejddblgkcgaaDoor
open Go.RowKit

theorem cv_ex (a : Nat) (ha : a < 4294967296) (w : World) : ∃ c w', (convert 25 22 (.float .f32 a)).run Tryd.prog w = .ok (.float .f64 c) w' ∧ BkR a c ∧ Below w.heap.size w w' := by
  cases hn : S.nanB a
  · obtain ⟨_, _, h3, h4⟩ := bk_parts hn
    exact ⟨_, _, wide_num Tryd.underlying25 Tryd.underlying22 ha hn w, ⟨h3, by rw [hn, h4], fun _ => rfl⟩, Below.refl _ _⟩
  · obtain ⟨n1, n2⟩ := ncW_nan a w
    exact ⟨_, _, wide_nan Tryd.underlying25 Tryd.underlying22 ha hn w, ⟨n2, by rw [hn, n1], fun h => by rw [hn] at h; cases h⟩, (Below.refl _ _).drew⟩
theorem op_ex {op : BinOp} (hop : FourOp op) (x y : Nat) (w : World) : ∃ r w', (binOp op 22 (.float .f64 x) (.float .f64 y)).run Tryd.prog w = .ok (.float .f64 r) w' ∧ NR (floatBits op .f64 x y) r ∧ Below w.heap.size w w' :=
  ⟨_, _, run_op4 hop _ x y w, op_NR hop w, opW_below op x y (Below.refl _ _)⟩
theorem read_inf {x : Nat} (hx : x < 18446744073709551616) (nx : nanB x = false) (fx : finB x = false) : Ieee.double.read x = .infinity (sgn x) := by
  have h1 : rung x ≤ 9218868437227405312 := by unfold nanB at nx; simpa using nx
  have h2 : ¬ rung x < 9218868437227405312 := by unfold finB at fx; simpa using fx
  rw [read_eq x hx, if_neg h2, if_pos (by omega)]
theorem inf_fin (s : Bool) : finB (Ieee.double.write (.infinity s)) = false := by
  show finB (Ieee.double.word s 9218868437227405312) = false
  unfold finB
  rw [word_k _ (by omega)]; decide
theorem fin'_of {x : Nat} (hx : x < 18446744073709551616) (fx : finB x = true) : Fin' x := ⟨hx, fin_rung fx⟩
/-- A finite sum comes of finite numbers. -/
theorem add_finB {x y v : Nat} (hx : x < 18446744073709551616) (hy : y < 18446744073709551616) (nx : nanB x = false) (ny : nanB y = false) (h : floatBits .add .f64 x y = some v) (fv : finB v = true) : finB x = true ∧ finB y = true := by
  rw [(fbits_map x y).1] at h
  cases fx : finB x
  · rw [read_inf hx nx fx] at h
    exfalso
    cases hr : Ieee.double.read y with
    | number s m e =>
      rw [hr] at h
      simp only [Ieee.Datum.sum, Option.map_some, Option.some.injEq] at h
      rw [← h, inf_fin] at fv; cases fv
    | infinity s =>
      rw [hr] at h
      simp only [Ieee.Datum.sum] at h
      split at h
      · simp only [Option.map_some, Option.some.injEq] at h
        rw [← h, inf_fin] at fv; cases fv
      · cases h
    | nan s t => rw [hr] at h; cases h
  · cases fy : finB y
    · exfalso
      rw [read_fin hx fx, read_inf hy ny fy] at h
      simp only [Ieee.Datum.sum, Option.map_some, Option.some.injEq] at h
      rw [← h, inf_fin] at fv; cases fv
    · exact ⟨rfl, rfl⟩
theorem bk_wd {a c : Nat} (hc : BkR a c) (fc : finB c = true) : rung c = wd (S.rung a) ∧ S.nanB a = false := by
  have hn : S.nanB a = false := by
    rw [← hc.2.1]; exact rung_nan (by have := fin_rung fc; omega)
  refine ⟨?_, hn⟩
  rw [hc.2.2 hn] at fc ⊢
  rw [bk_fin hn] at fc
  rw [(bk_parts hn).1]
  unfold wr
  have : S.rung a < 2139095040 := by simpa [S.finB] using fc
  rw [if_neg (by omega)]
theorem nan_op {op : BinOp} (hop : FourOp op) {x y v : Nat} (hx : x < 18446744073709551616) (hy : y < 18446744073709551616) (h : floatBits op .f64 x y = some v) : nanB x = false ∧ nanB y = false := by
  constructor
  · cases hn : nanB x
    · rfl
    · rw [op_nan hop hx hy (Or.inl hn)] at h; cases h
  · cases hn : nanB y
    · rfl
    · rw [op_nan hop hx hy (Or.inr hn)] at h; cases h
theorem odd_nan {s r : Nat} (h : nanB s = true) : oddF s r = s := by unfold oddF; rw [if_pos (Or.inl h)]
/-- What is told of a float that is rounded once more behind odd. -/
theorem odd_NS {o : Option Nat} {s r n : Nat} (hs : NR o s) (ho : ∀ v, o = some v → nanB v = false) (h : ∀ v, o = some v → nanB r = false → rung r ≠ 0 → finB v = true → ¬ Mid2 (rung v) ∧ rung v ≠ 0) (hn : ToR (oddF s r) 0 n) : NS o n := by
  cases o with
  | none =>
    have e : nanB s = true := hs.2
    rw [odd_nan e] at hn
    exact ⟨hn.1, hn.2.1.trans e⟩
  | some v =>
    have e : s = v := hs.2
    subst e
    obtain ⟨g1, g2, _⟩ := odd_same hs.1 (ho s rfl) (h s rfl)
    refine ⟨hn.1, ?_⟩
    show n = nrW s
    rw [hn.2.2 g2, toS_near, g1]
theorem add_NS {a b c d s t k p q r n : Nat} (hc : BkR a c) (hd : BkR b d) (hs : NR (floatBits .add .f64 c d) s) (ht : NR (floatBits .sub .f64 s c) t) (hk : NR (floatBits .sub .f64 s t) k) (hp : NR (floatBits .sub .f64 c k) p) (hq : NR (floatBits .sub .f64 d t) q) (hr : NR (floatBits .add .f64 p q) r) (hn : ToR (oddF s r) 0 n) : NS (opB .add a b) n := by
  have hadd : FourOp .add := Or.inl rfl
  have hs' := hs
  rw [opB_of hadd hc hd] at hs'
  refine odd_NS hs' (fun v h => opB_nan hadd h) (fun v hv nr zr fv => ?_) hn
  have hv' : floatBits .add .f64 c d = some v := by rw [opB_of hadd hc hd]; exact hv
  rw [hv'] at hs
  have es : s = v := hs.2
  subst es
  obtain ⟨nc, nd⟩ := nan_op hadd hc.1 hd.1 hv'
  obtain ⟨fc, fd⟩ := add_finB hc.1 hd.1 nc nd hv' fv
  have Fc := fin'_of hc.1 fc
  have Fd := fin'_of hd.1 fd
  have Fs := fin'_of hs.1 fv
  have key : Mid2 (rung s) ∨ rung s = 0 → False := fun hm => by
    have ex := sum_exact Fc Fd (bk_wd hc fc).1 (bk_wd hd fd).1 hv' (fin_rung fv) hm
    obtain ⟨t', k', p', q', r', e1, e2, e3, e4, e5, f6, e6⟩ := left_none Fc Fd Fs ex
    rw [e1] at ht
    have ht2 : t = t' := ht.2
    subst ht2
    rw [e2] at hk
    have hk2 : k = k' := hk.2
    subst hk2
    rw [e3] at hp
    have hp2 : p = p' := hp.2
    subst hp2
    rw [e4] at hq
    have hq2 : q = q' := hq.2
    subst hq2
    rw [e5] at hr
    have hr2 : r = r' := hr.2
    subst hr2
    exact zr (zero_place e6)
  exact ⟨fun h => key (Or.inl h), fun h => key (Or.inr h)⟩
theorem vZ_place (x : Nat) : vZ x = if place x < 0 then -(val (place x).natAbs : Int) else (val (place x).natAbs : Int) := by
  unfold vZ place
  cases sgn x
  · simp only [Bool.false_eq_true, if_false]
    rw [if_neg (by omega), Int.natAbs_natCast]
  · simp only [if_true]
    by_cases h : rung x = 0
    · rw [h, if_neg (by omega)]; simp [val_zero]
    · rw [if_pos (by omega), Int.natAbs_neg, Int.natAbs_natCast]
theorem neg_vZ {x : Nat} (hx : Fin' x) : Fin' (Op.negFloat .f64 x) ∧ vZ (Op.negFloat .f64 x) = - vZ x ∧ rung (Op.negFloat .f64 x) = rung x := by
  obtain ⟨n1, n2, n3⟩ := neg_place hx.1
  have hr : ∀ y, rung y = (place y).natAbs := fun y => by unfold place; split <;> omega
  have e : rung (Op.negFloat .f64 x) = rung x := by rw [hr, hr, n1, Int.natAbs_neg]
  refine ⟨⟨n3, by rw [e]; exact hx.2⟩, ?_, e⟩
  rw [vZ_place, vZ_place, n1, Int.natAbs_neg]
  by_cases h : place x = 0
  · rw [h]; simp [val_zero]
  · by_cases g : place x < 0
    · rw [if_neg (by omega), if_pos g]; omega
    · rw [if_pos (by omega), if_neg g]
theorem quo_sgn {x d v : Nat} (hx : Fin' x) (hd : Fin' d) (hd0 : rung d ≠ 0) (h : floatBits .quo .f64 x d = some v) (hv0 : rung v ≠ 0) : sgn v = (sgn x ^^ sgn d) := by
  obtain ⟨_, n0, _, _⟩ := mg_form hd0
  rw [(fbits_map x d).2.2.2, read_f hx, read_f hd] at h
  simp only [Ieee.Datum.quotient] at h
  rw [if_neg n0] at h
  simp only [Option.map_some, Ieee.Format.write, Option.some.injEq] at h
  obtain ⟨m, hm⟩ : ∃ m, 2 * (mg (rung x) <<< (54 + (mg (rung d)).log2 - (mg (rung x)).log2) / mg (rung d)) + (mg (rung x) <<< (54 + (mg (rung d)).log2 - (mg (rung x)).log2) % mg (rung d) != 0).toNat = m := ⟨_, rfl⟩
  obtain ⟨p, hp⟩ : ∃ p : Int, -1074 + (up (rung x) : Int) - (-1074 + (up (rung d) : Int)) - ((54 + (mg (rung d)).log2 - (mg (rung x)).log2 : Nat) : Int) - 1 = p := ⟨_, rfl⟩
  rw [hm, hp] at h
  by_cases m0 : m = 0
  · exfalso
    rw [m0] at h
    unfold Ieee.Format.nearest at h
    rw [if_pos rfl] at h
    rw [← h, word_k _ (by omega)] at hv0
    exact hv0 rfl
  · obtain ⟨K, hK⟩ : ∃ K : Nat, 0 ≤ p + 1074 + (K : Int) := ⟨(-(p + 1074)).toNat, by omega⟩
    obtain ⟨k, e, kl, _⟩ := near_anyD (sgn x ^^ sgn d) p K m0 hK
    rw [e] at h
    rw [← h]
    exact (word_eqZ _ (by omega)).2.2
theorem div_NS {a b c d q f r n : Nat} (hc : BkR a c) (hd : BkR b d) (hq : NR (floatBits .quo .f64 c d) q) (fq : finB q = true) (q0 : rung q ≠ 0) (fc : finB c = true) (fd : finB d = true)
    (hf : (vZ (Op.negFloat .f64 q) * vZ d + vZ c * 2 ^ 1074 = 0 → rung f = 0)) (hr : rung r = rung f) (hn : ToR (oddF q r) 0 n) : NS (opB .quo a b) n := by
  have hop : FourOp .quo := Or.inr (Or.inr (Or.inr rfl))
  obtain ⟨E, hE⟩ : ∃ E, E = 1074 := ⟨_, rfl⟩
  rw [← hE] at hf
  have hq' := hq
  rw [opB_of hop hc hd] at hq'
  refine odd_NS hq' (fun v h => opB_nan hop h) (fun v hv nr zr fv => ?_) hn
  have hv' : floatBits .quo .f64 c d = some v := by rw [opB_of hop hc hd]; exact hv
  rw [hv'] at hq
  have es : q = v := hq.2
  subst es
  have Fc := fin'_of hc.1 fc
  have Fd := fin'_of hd.1 fd
  have Fq := fin'_of hq.1 fq
  refine ⟨fun hm => zr ?_, q0⟩
  have d0 : rung d ≠ 0 := by
    intro e
    have hz := read_f Fd
    rw [e, show mg 0 = 0 from rfl] at hz
    rw [(fbits_map c d).2.2.2, read_f Fc, hz] at hv'
    simp only [Ieee.Datum.quotient, if_true] at hv'
    split at hv'
    · cases hv'
    · simp only [Option.map_some, Option.some.injEq] at hv'
      rw [← hv', inf_fin] at fq; cases fq
  have c0 : rung c ≠ 0 := by
    intro e
    obtain ⟨r', h1, _, h3, _⟩ := quo_ex (k := 0) hE Fc Fd d0 (by omega) (by rw [e, val_zero, Nat.zero_mul, Nat.zero_mul])
    rw [hv'] at h1
    cases h1
    exact q0 h3
  have ex := quo_exact hE Fc Fd (bk_wd hc fc).1 (bk_wd hd fd).1 c0 d0 hv' (fin_rung fq) hm
  have sq := quo_sgn Fc Fd d0 hv' q0
  rw [hr]
  refine hf ?_
  rw [(neg_vZ Fq).2.1]
  have ex' : (val (rung c) : Int) * 2 ^ E = (val (rung q) : Int) * (val (rung d) : Int) := by
    have := congrArg (fun n : Nat => (n : Int)) ex
    simp only [Int.natCast_mul, Int.natCast_pow] at this
    exact this
  unfold vZ
  rw [sq]
  cases sgn c <;> cases sgn d <;> simp only [Bool.xor_false, Bool.xor_true, Bool.not_false, Bool.not_true, Bool.false_eq_true, if_false, if_true, Int.neg_mul, Int.mul_neg, Int.neg_neg] <;> rw [ex'] <;> omega
theorem sqrt_NS {a c s f n : Nat} (hc : BkR a c) (hs : NR (FloatKind.f64.format.sqrt c) s) (fs : finB s = true) (s0 : rung s ≠ 0) (fc : finB c = true) (sc : sgn c = false) (c0 : rung c ≠ 0)
    (hf : (vZ (Op.negFloat .f64 s) * vZ s + vZ c * 2 ^ 1074 = 0 → rung f = 0)) (hn : ToR (oddF s f) 0 n) : NS (rootB a) n := by
  obtain ⟨E, hE⟩ : ∃ E, E = 1074 := ⟨_, rfl⟩
  rw [← hE] at hf
  have hs' := hs
  rw [rootB_of hc] at hs'
  refine odd_NS hs' (fun v h => rootB_nan h) (fun v hv nr zr fv => ?_) hn
  have hv' : FloatKind.f64.format.sqrt c = some v := by rw [rootB_of hc]; exact hv
  rw [hv'] at hs
  have es : s = v := hs.2
  subst es
  have Fc := fin'_of hc.1 fc
  have Fs := fin'_of hs.1 fs
  refine ⟨fun hm => zr ?_, s0⟩
  have ex := root_exact hE Fc (bk_wd hc fc).1 c0 sc hv' (fin_rung fs) hm
  refine hf ?_
  rw [(neg_vZ Fs).2.1]
  have ex' : (val (rung c) : Int) * 2 ^ E = (val (rung s) : Int) * (val (rung s) : Int) := by
    have := congrArg (fun n : Nat => (n : Int)) ex
    simp only [Int.natCast_mul, Int.natCast_pow] at this
    exact this
  unfold vZ
  rw [sc]
  cases sgn s <;> simp only [Bool.false_eq_true, if_false, if_true, Int.neg_mul, Int.mul_neg, Int.neg_neg] <;> rw [ex'] <;> omega
/-- The root of what is not finite, or below 0, is not finite. -/
theorem sqrt_fin {c s : Nat} (hc : c < 18446744073709551616) (hs : NR (FloatKind.f64.format.sqrt c) s) (fs : finB s = true) (s0 : rung s ≠ 0) : finB c = true ∧ sgn c = false ∧ rung c ≠ 0 := by
  have ns : nanB s = false := rung_nan (by have := fin_rung fs; omega)
  cases hq : FloatKind.f64.format.sqrt c with
  | none => rw [hq] at hs; have : nanB s = true := hs.2; rw [ns] at this; cases this
  | some v =>
    rw [hq] at hs
    have e : s = v := hs.2
    subst e
    have hq' : ((Ieee.double.read c).root 54).map Ieee.double.write = some s := hq
    cases nc : nanB c
    · cases fc : finB c
      · exfalso
        rw [read_inf hc nc fc] at hq'
        simp only [Ieee.Datum.root] at hq'
        split at hq'
        · cases hq'
        · simp only [Option.map_some, Option.some.injEq] at hq'
          rw [← hq', inf_fin] at fs; cases fs
      · rw [read_fin hc fc] at hq'
        simp only [Ieee.Datum.root] at hq'
        by_cases m0 : mg (rung c) = 0
        · exfalso
          rw [if_pos m0] at hq'
          simp only [Option.map_some, Ieee.Format.write, Option.some.injEq] at hq'
          rw [m0] at hq'
          unfold Ieee.Format.nearest at hq'
          rw [if_pos rfl] at hq'
          rw [← hq', word_k _ (by omega)] at s0
          exact s0 rfl
        · rw [if_neg m0] at hq'
          cases sc : sgn c
          · exact ⟨rfl, rfl, fun e => m0 (by rw [e]; rfl)⟩
          · rw [sc] at hq'; cases hq'
    · obtain ⟨x, y, e⟩ := read_nan hc nc
      rw [e] at hq'; cases hq'
theorem neg_word32 {r : Nat} (h : r < 2147483648) : Op.negFloat .f32 r = 2147483648 + r := by
  unfold Op.negFloat
  rw [fmt32]
  have e : (2 : Nat) ^ (Ieee.single.exponentBits + Ieee.single.fractionBits) = 2 ^ 31 := rfl
  rw [e]
  have h1 := Nat.two_pow_add_eq_or_of_lt (i := 31) (b := r) (by omega) 1
  rw [Nat.mul_one] at h1
  have h2 : r ^^^ 2 ^ 31 = 2 ^ 31 ||| r := by
    apply Nat.eq_of_testBit_eq
    intro k
    rw [Nat.testBit_xor, Nat.testBit_or, Nat.testBit_two_pow]
    by_cases hk : 31 = k
    · subst hk
      have : r.testBit 31 = false := Nat.testBit_lt_two_pow (by omega)
      simp [this]
    · simp [hk]
  rw [h2, ← h1]
theorem neg32 {b : Nat} (hb : b < 4294967296) : Op.negFloat .f32 b < 4294967296 ∧ S.rung (Op.negFloat .f32 b) = S.rung b ∧ S.sgn (Op.negFloat .f32 b) = !S.sgn b := by
  by_cases c : 2147483648 ≤ b
  · have e0 : Op.negFloat .f32 (b - 2147483648) = 2147483648 + (b - 2147483648) := neg_word32 (by omega)
    have e1 : b = Op.negFloat .f32 (b - 2147483648) := by rw [e0]; omega
    have e2 : Op.negFloat .f32 (Op.negFloat .f32 (b - 2147483648)) = b - 2147483648 := by
      unfold Op.negFloat
      rw [Nat.xor_assoc, Nat.xor_self, Nat.xor_zero]
    have e : Op.negFloat .f32 b = b - 2147483648 := (congrArg (Op.negFloat .f32) e1).trans e2
    rw [e]
    unfold S.rung S.sgn
    refine ⟨by omega, by omega, ?_⟩
    rw [decide_eq_true c, decide_eq_false (by omega)]; rfl
  · rw [neg_word32 (by omega)]
    unfold S.rung S.sgn
    refine ⟨by omega, by omega, ?_⟩
    rw [decide_eq_false c, decide_eq_true (by omega)]; rfl
/-- A difference is the sum with the opposite number. -/
theorem sub_add {a b : Nat} (hb : b < 4294967296) : opB .add a (Op.negFloat .f32 b) = opB .sub a b := by
  obtain ⟨_, n2, n3⟩ := neg32 hb
  have hn : S.nanB (Op.negFloat .f32 b) = S.nanB b := by unfold S.nanB; rw [n2]
  unfold opB
  rw [hn]
  cases nb : S.nanB b
  · cases na : S.nanB a
    · simp only [Bool.or_self, Bool.false_eq_true, if_false]
      rw [(fbits_map _ _).1, (fbits_map _ _).2.1]
      congr 2
      obtain ⟨p1, p2, p3, _⟩ := bk_parts nb
      obtain ⟨q1, q2, q3, _⟩ := bk_parts (hn.trans nb)
      have hr : rung (bk (Op.negFloat .f32 b)) = rung (bk b) := by rw [p1, q1, n2]
      have hs : sgn (bk (Op.negFloat .f32 b)) = !sgn (bk b) := by rw [p2, q2, n3]
      rw [read_eq _ q3, read_eq _ p3, hr, hs]
      split
      · rfl
      · split <;> rfl
    · rfl
  · cases S.nanB a <;> rfl
end Go.Proofs.YtekejddblgkcgaaDoor
