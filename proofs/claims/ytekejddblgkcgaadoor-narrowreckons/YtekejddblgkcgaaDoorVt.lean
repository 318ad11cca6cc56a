/- What narrow's Add, Sub, Mul, Div, Sqrt answer of any narrow floats: what floats do, rounded once more. -/
import Derived.Test.YtekejddblgkcgaaDoorVa
import Derived.Test.YtekejddblgkcgaaDoorZw
import Derived.Test.YtekejddblgkcgaaDoorSz
namespace Go.Proofs.YtekejddblgkcgaaDoor
open Go.RowKit

/-- What Back answers. -/
def BkR (a c : Nat) : Prop := c < 18446744073709551616 ∧ nanB c = S.nanB a ∧ (S.nanB a = false → c = bk a)
theorem n_back_all (a : Nat) (ha : a < 4294967296) (w : World) :
    Calls Tryd.prog 9 #[.float .f32 a] w fun e w' => ∃ c, e = .returned (.float .f64 c) ∧ BkR a c ∧ Below w.heap.size w w' := by
  cases hn : S.nanB a
  · refine (n_back_any a ha hn w).mono ?_
    rintro e w' ⟨rfl, rfl⟩
    obtain ⟨_, _, h3, h4⟩ := bk_parts hn
    exact ⟨_, rfl, ⟨h3, by rw [hn, h4], fun _ => rfl⟩, Below.refl _ _⟩
  · refine (n_back_nan a ha hn w).mono ?_
    rintro e w' ⟨c, rfl, h1, h2, rfl⟩
    exact ⟨_, rfl, ⟨h2, by rw [hn, h1], fun h => by rw [hn] at h; cases h⟩, (Below.refl _ _).drew⟩
/-- The operation of floats on what two narrow floats are. -/
def opB (op : BinOp) (a b : Nat) : Option Nat := if S.nanB a || S.nanB b then none else floatBits op .f64 (bk a) (bk b)
def rootB (a : Nat) : Option Nat := if S.nanB a then none else FloatKind.f64.format.sqrt (bk a)
theorem opB_of {op : BinOp} (hop : FourOp op) {a b c d : Nat} (hc : BkR a c) (hd : BkR b d) : floatBits op .f64 c d = opB op a b := by
  unfold opB
  cases na : S.nanB a
  · cases nb : S.nanB b
    · rw [hc.2.2 na, hd.2.2 nb]; rfl
    · exact op_nan hop hc.1 hd.1 (Or.inr (hd.2.1.trans nb))
  · exact op_nan hop hc.1 hd.1 (Or.inl (hc.2.1.trans na))
theorem rootB_of {a c : Nat} (hc : BkR a c) : FloatKind.f64.format.sqrt c = rootB a := by
  unfold rootB
  cases na : S.nanB a
  · rw [hc.2.2 na]; rfl
  · obtain ⟨s, t, e⟩ := read_nan hc.1 (hc.2.1.trans na)
    show ((Ieee.double.read c).root 54).map Ieee.double.write = _
    rw [e]; rfl
theorem opB_nan {op : BinOp} (hop : FourOp op) {a b v : Nat} (h : opB op a b = some v) : nanB v = false := by
  unfold opB at h
  split at h
  · cases h
  · exact rung_nan (op_word hop h).2
theorem rootB_nan {a v : Nat} (h : rootB a = some v) : nanB v = false := by
  unfold rootB at h
  split at h
  · cases h
  · exact rung_nan (sqrt_word h).2
/-- A narrow float that is what 'o' tells, rounded; any NaN where it tells nothing. -/
def NS (o : Option Nat) (n : Nat) : Prop := n < 4294967296 ∧ (match o with | some v => n = nrW v | none => S.nanB n = true)
theorem NS_same {o : Option Nat} {n t : Nat} (h : NS o n) (g : NS o t) : sSame n t = true := by
  cases o with
  | some v => unfold sSame; rw [h.2, g.2]; simp
  | none => unfold sSame; rw [h.2, g.2]; rfl
theorem n_near_any (x : Nat) (o : Option Nat) (hx : NR o x) (ho : ∀ v, o = some v → nanB v = false) (w : World) :
    Calls Tryd.prog 22 #[.float .f64 x] w fun e w' => ∃ n, e = .returned (.float .f32 n) ∧ NS o n ∧ Below w.heap.size w w' := by
  cases o with
  | some v =>
    have e : x = v := hx.2
    subst e
    refine (n_near_num x hx.1 (ho x rfl) w).mono ?_
    rintro e w' ⟨rfl, rfl⟩
    exact ⟨_, rfl, ⟨(nrW_ok x).2, rfl⟩, Below.refl _ _⟩
  | none =>
    refine (n_near_nan x hx.1 hx.2 w).mono ?_
    rintro e w' ⟨n, rfl, h1, h2, rfl⟩
    exact ⟨_, rfl, ⟨h2, h1⟩, (Below.refl _ _).drew⟩
theorem toS_near (x : Nat) : toS x 0 = nrW x := by
  unfold toS nrW
  have e : toSz (rung x) (sgn x) (toDn 0 (sgn x)) (toUp 0 (sgn x)) = nwr (rung x) := by
    unfold toSz toDn toUp
    cases sgn x <;> simp
  rw [e]
theorem ToR_NS {x n : Nat} {o : Option Nat} (hx : NR o x) (ho : ∀ v, o = some v → nanB v = false) (h : ToR x 0 n) : NS o n := by
  cases o with
  | some v =>
    have e : x = v := hx.2
    subst e
    exact ⟨h.1, show n = nrW x by rw [← toS_near]; exact h.2.2 (ho x rfl)⟩
  | none => exact ⟨h.1, h.2.1.trans hx.2⟩
theorem wd_one : 553942754166571008 ≤ wd 1 := by decide
theorem bk_calm {a c : Nat} (hc : BkR a c) (h : someB c = true) : 553942754166571008 ≤ rung c := by
  obtain ⟨fc, c0⟩ := some_rung h
  have hn : S.nanB a = false := by
    rw [← hc.2.1]; exact rung_nan (by have := fin_rung fc; omega)
  rw [hc.2.2 hn] at c0 ⊢
  have e := (bk_parts hn).1
  rw [e] at c0 ⊢
  have c0' : wr (S.rung a) ≠ 0 := by simpa using c0
  have hle := s_nan_le hn
  have h1 : S.rung a ≠ 0 := fun h => c0' (by rw [h, wr_zero])
  have w1 := wd_one
  unfold wr
  split
  · omega
  · rcases (show S.rung a = 1 ∨ 1 < S.rung a by omega) with h2 | h2
    · rw [h2]; exact w1
    · have := (wd_lt_iff 1 (S.rung a)).2 h2
      omega
theorem val_calm : val 553942754166571008 = 2 ^ 174 := by decide
/-- What is rounded is not too little. -/
theorem near_calm (s : Bool) {m : Nat} {p : Int} (hm : m ≠ 0) (hp : -402 ≤ p) : 553942754166571008 ≤ rung (Ieee.double.nearest s m p) := by
  obtain ⟨k, e, hk, c⟩ := near_anyD s p 0 hm (by omega)
  rw [e, (word_rung s (by omega)).1]
  have h := (c 553942754166571007 (by omega)).2 (by
    left
    have v1 := val_step 553942754166571007
    rw [show 553942754166571007 + 1 = 553942754166571008 from rfl, val_calm] at v1 ⊢
    obtain ⟨j, hj⟩ : ∃ j, (p + 1074 + ((0 : Nat) : Int)).toNat = 174 + j := ⟨(p + 1074).toNat - 174, by omega⟩
    rw [hj, Nat.pow_add, Nat.pow_zero, Nat.mul_one]
    have h1 : 1 ≤ m * 2 ^ j := Nat.mul_pos (by omega) (Nat.two_pow_pos j)
    have h2 : 2 ^ 174 * 1 ≤ 2 ^ 174 * (m * 2 ^ j) := Nat.mul_le_mul_left _ h1
    have h3 : m * (2 ^ 174 * 2 ^ j) = 2 ^ 174 * (m * 2 ^ j) := by rw [Nat.mul_left_comm]
    rw [h3]
    generalize 2 ^ 174 * (m * 2 ^ j) = z at *
    generalize (2 : Nat) ^ 174 = t at *
    omega)
  omega
theorem mul_calm {a b c d q : Nat} (hc : BkR a c) (hd : BkR b d) (sc : someB c = true) (sd : someB d = true) (hq : floatBits .mul .f64 c d = some q) : 553942754166571008 ≤ rung q := by
  obtain ⟨fc, c0⟩ := some_rung sc
  obtain ⟨fd, d0⟩ := some_rung sd
  have key : ∀ {a c : Nat}, BkR a c → finB c = true → (rung c == 0) = false → mg (rung c) ≠ 0 ∧ 873 ≤ up (rung c) := by
    intro a c hc fc c0
    have c0' : rung c ≠ 0 := by simpa using c0
    refine ⟨by unfold mg; split <;> omega, ?_⟩
    have hn : S.nanB a = false := by
      rw [← hc.2.1]; exact rung_nan (by have := fin_rung fc; omega)
    have hf : S.finB a = true := by rw [← bk_fin hn, ← hc.2.2 hn]; exact fc
    have hlt : S.rung a < 2139095040 := by simpa [S.finB] using hf
    have e := (bk_parts hn).1
    rw [hc.2.2 hn, e] at c0' ⊢
    have hw : wr (S.rung a) = wd (S.rung a) := by unfold wr; rw [if_neg (by omega)]
    rw [hw] at c0' ⊢
    have h0 : S.rung a ≠ 0 := fun h => c0' (by rw [h, wd_zero])
    rw [(wd_mg h0).2]
    omega
  obtain ⟨m1, u1⟩ := key hc fc c0
  obtain ⟨m2, u2⟩ := key hd fd d0
  rw [(fbits_map c d).2.2.1, read_fin hc.1 fc, read_fin hd.1 fd] at hq
  simp only [Ieee.Datum.product, Option.map_some, Ieee.Format.write, Option.some.injEq] at hq
  rw [← hq]
  exact near_calm _ (Nat.mul_ne_zero m1 m2) (by omega)
set_option maxHeartbeats 800000 in
theorem n_add_any (a b : Nat) (ha : a < 4294967296) (hb : b < 4294967296) (w : World) :
    Calls Tryd.prog 12 #[.float .f32 a, .float .f32 b] w fun e w' => ∃ n, e = .returned (.float .f32 n) ∧ NS (opB .add a b) n ∧ Below w.heap.size w w' := by
  have A := n_back_all a ha
  have B := n_back_all b hb
  go_enter Tryd.func12, Tryd.ntmps12
  go_wp2_with (first
    | (go_at_call_of 9 (Value.float FloatKind.f32 a); refine (A _).mono ?_; rintro e w1 ⟨c, rfl, hc, b1⟩)
    | (go_at_call_of 9 (Value.float FloatKind.f32 b); refine (B _).mono ?_; rintro e w2 ⟨d, rfl, hd, b2⟩)
    | (go_at_call 34; refine (radd_near _ _ hc.1 hd.1 _).mono ?_; rw [opB_of (op := .add) (Or.inl rfl) hc hd]; rintro e w3 ⟨r, rfl, hr, b3⟩)
    | (go_at_call 22; refine (n_near_any _ _ hr (fun v h => opB_nan (op := .add) (Or.inl rfl) h) _).mono ?_; rintro e w4 ⟨n, rfl, hn, b4⟩))
  go_ret
  have c2 := b1.trans (b2.mono b1.size)
  have c3 := c2.trans (b3.mono c2.size)
  exact ⟨_, rfl, hn, c3.trans (b4.mono c3.size)⟩
set_option maxHeartbeats 800000 in
theorem n_sub_any (a b : Nat) (ha : a < 4294967296) (hb : b < 4294967296) (w : World) :
    Calls Tryd.prog 14 #[.float .f32 a, .float .f32 b] w fun e w' => ∃ n, e = .returned (.float .f32 n) ∧ NS (opB .sub a b) n ∧ Below w.heap.size w w' := by
  have A := n_back_all a ha
  have B := n_back_all b hb
  go_enter Tryd.func14, Tryd.ntmps14
  go_wp2_with (first
    | (go_at_call_of 9 (Value.float FloatKind.f32 a); refine (A _).mono ?_; rintro e w1 ⟨c, rfl, hc, b1⟩)
    | (go_at_call_of 9 (Value.float FloatKind.f32 b); refine (B _).mono ?_; rintro e w2 ⟨d, rfl, hd, b2⟩)
    | (go_at_call 36; refine (rsub_near _ _ hc.1 hd.1 _).mono ?_; rw [opB_of (op := .sub) (Or.inr (Or.inl rfl)) hc hd]; rintro e w3 ⟨r, rfl, hr, b3⟩)
    | (go_at_call 22; refine (n_near_any _ _ hr (fun v h => opB_nan (op := .sub) (Or.inr (Or.inl rfl)) h) _).mono ?_; rintro e w4 ⟨n, rfl, hn, b4⟩))
  go_ret
  have c2 := b1.trans (b2.mono b1.size)
  have c3 := c2.trans (b3.mono c2.size)
  exact ⟨_, rfl, hn, c3.trans (b4.mono c3.size)⟩
set_option maxHeartbeats 800000 in
theorem n_mul_any (a b : Nat) (ha : a < 4294967296) (hb : b < 4294967296) (w : World) :
    Calls Tryd.prog 16 #[.float .f32 a, .float .f32 b] w fun e w' => ∃ n, e = .returned (.float .f32 n) ∧ NS (opB .mul a b) n ∧ Below w.heap.size w w' := by
  have A := n_back_all a ha
  have B := n_back_all b hb
  go_enter Tryd.func16, Tryd.ntmps16
  go_wp2_with (first
    | (go_at_call_of 9 (Value.float FloatKind.f32 a); refine (A _).mono ?_; rintro e w1 ⟨c, rfl, hc, b1⟩)
    | (go_at_call_of 9 (Value.float FloatKind.f32 b); refine (B _).mono ?_; rintro e w2 ⟨d, rfl, hd, b2⟩)
    | (go_at_call 37; refine (rmul_near _ _ hc.1 hd.1 (fun s1 s2 q h => mul_calm hc hd s1 s2 h) _).mono ?_; rw [opB_of (op := .mul) (Or.inr (Or.inr (Or.inl rfl))) hc hd]; rintro e w3 ⟨r, rfl, hr, b3⟩)
    | (go_at_call 22; refine (n_near_any _ _ hr (fun v h => opB_nan (op := .mul) (Or.inr (Or.inr (Or.inl rfl))) h) _).mono ?_; rintro e w4 ⟨n, rfl, hn, b4⟩))
  go_ret
  have c2 := b1.trans (b2.mono b1.size)
  have c3 := c2.trans (b3.mono c2.size)
  exact ⟨_, rfl, hn, c3.trans (b4.mono c3.size)⟩
set_option maxHeartbeats 800000 in
theorem n_div_any (a b : Nat) (ha : a < 4294967296) (hb : b < 4294967296) (w : World) :
    Calls Tryd.prog 18 #[.float .f32 a, .float .f32 b] w fun e w' => ∃ n, e = .returned (.float .f32 n) ∧ NS (opB .quo a b) n ∧ Below w.heap.size w w' := by
  have A := n_back_all a ha
  have B := n_back_all b hb
  go_enter Tryd.func18, Tryd.ntmps18
  go_wp2_with (first
    | (go_at_call_of 9 (Value.float FloatKind.f32 a); refine (A _).mono ?_; rintro e w1 ⟨c, rfl, hc, b1⟩)
    | (go_at_call_of 9 (Value.float FloatKind.f32 b); refine (B _).mono ?_; rintro e w2 ⟨d, rfl, hd, b2⟩)
    | (go_at_call 38; refine (rdiv_near _ _ hc.1 hd.1 (fun s1 => bk_calm hc s1) _).mono ?_; rw [opB_of (op := .quo) (Or.inr (Or.inr (Or.inr rfl))) hc hd]; rintro e w3 ⟨r, rfl, hr, b3⟩)
    | (go_at_call 22; refine (n_near_any _ _ hr (fun v h => opB_nan (op := .quo) (Or.inr (Or.inr (Or.inr rfl))) h) _).mono ?_; rintro e w4 ⟨n, rfl, hn, b4⟩))
  go_ret
  have c2 := b1.trans (b2.mono b1.size)
  have c3 := c2.trans (b3.mono c2.size)
  exact ⟨_, rfl, hn, c3.trans (b4.mono c3.size)⟩
set_option maxHeartbeats 800000 in
theorem n_sqrt_any (a : Nat) (ha : a < 4294967296) (w : World) :
    Calls Tryd.prog 20 #[.float .f32 a] w fun e w' => ∃ n, e = .returned (.float .f32 n) ∧ NS (rootB a) n ∧ Below w.heap.size w w' := by
  have A := n_back_all a ha
  go_enter Tryd.func20, Tryd.ntmps20
  go_wp2_with (first
    | (go_at_call 9; refine (A _).mono ?_; rintro e w1 ⟨c, rfl, hc, b1⟩)
    | (go_at_call 40; refine (rsqrt_near _ hc.1 (fun s1 => bk_calm hc s1) _).mono ?_; rw [rootB_of hc]; rintro e w3 ⟨r, rfl, hr, b3⟩)
    | (go_at_call 22; refine (n_near_any _ _ hr (fun v h => rootB_nan h) _).mono ?_; rintro e w4 ⟨n, rfl, hn, b4⟩))
  go_ret
  have c3 := b1.trans (b3.mono b1.size)
  exact ⟨_, rfl, hn, c3.trans (b4.mono c3.size)⟩
end Go.Proofs.YtekejddblgkcgaaDoor
