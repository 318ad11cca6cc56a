/- JointsLength: the walk. -/
import Derived.Test.YtlhoidkfphellaaDoorJB
namespace Go.Proofs.YtlhoidkfphellaaDoor
open Go.RowKit

def p18 : Nat := 65536
theorem kint_sv (n : Int) : sv ⟨decide (n < 0), [n.natAbs], 0⟩ = n := by
  unfold sv
  simp only [vl]
  by_cases h : n < 0
  · rw [decide_eq_true h]; simp; omega
  · rw [decide_eq_false h]; simp; omega
theorem kint_facts {n : Int} (h1 : -9223372036854775808 ≤ n) (h2 : n ≤ 9223372036854775807) : Fd (intD n) (n * 2 ^ twP * 2 ^ twP) := by
  have e : intD n = (nrm n 0).1 := by unfold intD normD; rw [kint_sv]
  have hb : bl n.natAbs ≤ 64 := bl_le_iff.2 (by omega)
  have ht : (nrm n 0).2 = 0 := nrm_told (by omega) (by omega) (by omega)
  obtain ⟨r1, r2⟩ := nrm_ok ht
  rw [e]
  refine ⟨r1, nrm_lm n 0, ?_⟩
  have h := r2 (-65536) (by omega) (by omega)
  unfold qd
  rw [show (nrm n 0).1.exp - -65536 = (nrm n 0).1.exp + 65536 by omega] at h
  rw [h, show ((0 : Int) - -65536).toNat = p18 from rfl, Int.mul_assoc, Int.mul_assoc, ← Int.pow_add, ← Int.pow_add, show twP + (twP + puH) = p18 from rfl]
/-- 2^22 as a float. -/
theorem val_t22 {E : Nat} (hE : E = 1074) : val 4706261610602168320 = 4194304 * 2 ^ E := by
  obtain ⟨k, hk⟩ : ∃ k : Nat, k = 4706261610602168320 := ⟨_, rfl⟩
  rw [← hk]
  unfold val
  rw [if_neg (by omega)]
  have q1 : k % 4503599627370496 = 0 := by omega
  have q2 : k / 4503599627370496 - 1 = E - 30 := by omega
  rw [q1, q2, Nat.add_zero, show (4503599627370496 : Nat) = 4194304 * 2 ^ 30 by decide, Nat.mul_assoc, ← Nat.pow_add, show 30 + (E - 30) = E by omega]
/-- What is told of the root of n. -/
structure Rts (A lo hi nr : Nat) : Prop where
  fin : hi < 9218868437227405312
  le : lo ≤ hi
  near : hi ≤ lo + 1
  one : nr = lo ∨ nr = hi
  same : lo = hi → val lo * val lo = A
  less : lo ≠ hi → val lo * val lo < A ∧ A < val hi * val hi
theorem rts_zero : Rts 0 0 0 0 := ⟨by omega, by omega, by omega, Or.inl rfl, fun _ => by rw [val_zero], fun h => absurd rfl h⟩
theorem root_rts {n x : Nat} (hn : n < 17592186044416) (hx : x < 9218868437227405312) (hv : val x = n * 2 ^ twP) (h0 : n ≠ 0) : Rts (n * 2 ^ twP * 2 ^ twP) (sqB 1 x) (sqB 2 x) (sqB 0 x) := by
  have hs : sgn x = false := by unfold sgn; simp; omega
  have hr : rung x = x := by unfold rung; omega
  have x0 : x ≠ 0 := fun e => by
    rw [e, val_zero] at hv
    have := Nat.two_pow_pos twP
    rcases Nat.mul_eq_zero.1 hv.symm with h | h <;> omega
  have fx : finB x = true := by unfold finB; rw [hr]; simpa using hx
  have sx : someB x = true := by unfold someB; rw [fx, hr]; simpa using x0
  have e : ∀ m, sqB m x = stepF (tQ x) (tS x) m := fun m => by unfold sqB; rw [sx, hs]; rfl
  obtain ⟨k, r, ⟨hk, b0, b1, b2⟩, hf⟩ := sqrt_told (by omega) sx hs
  have f : ∀ m, sqB m x = Ieee.double.word false (rgS k r m) := fun m => (e m).trans (hf m)
  rw [f, f, f, word_pos, word_pos, word_pos]
  rw [hr, hv] at b0 b1 b2
  simp only at b0 b1 b2
  have hA : n * 2 ^ twP * 2 ^ twP < val 4706261610602168320 * val 4706261610602168320 := by
    rw [val_t22 (E := twP) rfl, show 4194304 * 2 ^ twP * (4194304 * 2 ^ twP) = 17592186044416 * 2 ^ twP * 2 ^ twP by
      generalize (2 : Nat) ^ twP = c
      rw [show (17592186044416 : Nat) = 4194304 * 4194304 by decide]
      ac_rfl]
    have hc := Nat.two_pow_pos twP
    generalize (2 : Nat) ^ twP = c at hc ⊢
    exact Nat.mul_lt_mul_of_pos_right (Nat.mul_lt_mul_of_pos_right hn hc) hc
  have hbig : ∀ j, val j * val j < n * 2 ^ twP * 2 ^ twP → j < 4706261610602168320 := fun j hj => by
    rcases Nat.lt_or_ge j 4706261610602168320 with q | q
    · exact q
    · have h1 := Nat.mul_le_mul (val_le_D q) (val_le_D q)
      omega
  generalize n * 2 ^ twP * 2 ^ twP = A at *
  unfold rgS
  rcases (show r = 0 ∨ 0 < r ∨ r < 0 by omega) with q | q | q
  · obtain ⟨c1, c2⟩ := b0 q
    subst q
    simp
    exact ⟨c1, by omega, by omega, Or.inl rfl, fun _ => c2, fun h => absurd rfl h⟩
  · obtain ⟨c1, c2, c3⟩ := b1 q
    have c4 := hbig k c2
    simp [q, show ¬ r < 0 by omega]
    exact ⟨by omega, by omega, by omega, Or.inl rfl, fun h => by omega, fun _ => ⟨c2, c3 (by omega)⟩⟩
  · obtain ⟨c1, c2, c3⟩ := b2 q
    have c4 := hbig (k - 1) c2
    simp [q, show ¬ 0 < r by omega]
    exact ⟨by omega, by omega, by omega, Or.inr rfl, fun h => by omega, fun _ => ⟨c2, c3 (by omega)⟩⟩
end Go.Proofs.YtlhoidkfphellaaDoor

namespace Go.Proofs.YtlhoidkfphellaaDoor
open Go.RowKit

set_option maxHeartbeats 400000 in
theorem pick_c (x : Int) (c : Nat) (h1 : 1 ≤ c) (h2 : c ≤ 1000000000) (w : World) : Calls Tryd.prog 32 #[.int .i64 x, .int .i64 c] w fun e w' => ∃ m : Int, e = .returned (.int .i64 m) ∧ 0 ≤ m ∧ m < c ∧ w' = w := by
  have b1 : x.tmod c < c := Int.tmod_lt_of_pos x (by omega)
  have b2 : -(c : Int) < x.tmod c := by
    have := Int.tmod_lt_of_pos (-x) (show (0 : Int) < c by omega)
    rw [Int.neg_tmod] at this
    omega
  have c0 : ¬ (c : Int) = 0 := by omega
  by_cases h : x.tmod c < 0
  · generalize hy : x.tmod c = y at *
    go_enter Tryd.func32, Tryd.ntmps32
    go_wp2
    go_ret
    exact ⟨_, rfl, by omega, by omega, rfl⟩
  · generalize hy : x.tmod c = y at *
    go_enter Tryd.func32, Tryd.ntmps32
    go_wp2
    go_ret
    exact ⟨_, rfl, by omega, by omega, rfl⟩
/-- The name of a point. -/
def pN : ByteArray := ⟨#[112]⟩
set_option maxHeartbeats 1000000 in
theorem point_any (x y : Int) (w : World) : Calls Tryd.prog 14 #[.int .i64 x, .int .i64 y] w fun e w' => ∃ X Y : Int, e = .returned (jV (pN, X, Y, 0)) ∧ (-1048576 ≤ X ∧ X ≤ 1048576) ∧ (-1048576 ≤ Y ∧ Y ≤ 1048576) ∧ Below w.heap.size w w' := by
  have cx := fun w' => pick_c x 2097153 (by omega) (by omega) w'
  have cy := fun w' => pick_c y 2097153 (by omega) (by omega) w'
  unfold jV
  simp only
  have X0 := JBox.new w (.string ByteArray.empty) (.int .i32 0) (.int .i32 0) (.int .u8 0) 33
  have hb0 : Below w.heap.size w (w.alloc (.cells #[.string ByteArray.empty, .int .i32 0, .int .i32 0, .int .u8 0] 33)) := (Below.refl _ _).alloc (Nat.le_refl _) _
  go_enter Tryd.func14, Tryd.ntmps14
  go_upto_region 1 with fail
  generalize w.alloc (.cells #[.string ByteArray.empty, .int .i32 0, .int .i32 0, .int .u8 0] 33) = W0 at *
  obtain ⟨x0, x1, x2, x3, f0, f1, f2, f3, xl⟩ := id X0
  go_wp2_with (first | (go_at_call_of 32 (Value.int IntKind.i64 x); refine (cx _).mono ?_; rintro e w1 ⟨m, rfl, m1, m2, rfl⟩) | (go_at_call 32; refine (cy _).mono ?_; rintro e w2 ⟨n, rfl, n1, n2, rfl⟩))
  exact bodyPost_ret (v := .agg #[.string ⟨#[112]⟩, .int .i32 (m - 1048576), .int .i32 (n - 1048576), .int .u8 0]) (by simp [results, Tryd.results14, go_sem]) rfl ⟨m - 1048576, n - 1048576, rfl, ⟨by omega, by omega⟩, ⟨by omega, by omega⟩, (Below.refl _ _).alloc (Nat.le_refl _) _⟩
end Go.Proofs.YtlhoidkfphellaaDoor

namespace Go.Proofs.YtlhoidkfphellaaDoor
open Go.RowKit

theorem apt_in {a b : Jn} (h1 : -1048576 ≤ a.2.1 ∧ a.2.1 ≤ 1048576) (h2 : -1048576 ≤ a.2.2.1 ∧ a.2.2.1 ≤ 1048576) (h3 : -1048576 ≤ b.2.1 ∧ b.2.1 ≤ 1048576) (h4 : -1048576 ≤ b.2.2.1 ∧ b.2.2.1 ≤ 1048576) :
    aptA a b = (b.2.1 - a.2.1, b.2.2.1 - a.2.2.1, (b.2.1 - a.2.1) * (b.2.1 - a.2.1) + (b.2.2.1 - a.2.2.1) * (b.2.2.1 - a.2.2.1)) := by
  have k : ∀ x : Int, -1048576 ≤ x ∧ x ≤ 1048576 → crB x = true := fun x h => by unfold crB; simp; omega
  unfold aptA aptB
  rw [k _ h1, k _ h2, k _ h3, k _ h4]
  rfl
/-- The three floats told of a length. -/
theorem length_rts (a b : Jn) : ∃ lo hi nr n : Nat, (n : Int) = (aptA a b).2.2 ∧ n ≤ 8796093022208 ∧ sqB 1 (l2F a b) = lo ∧ sqB 2 (l2F a b) = hi ∧ sqB 0 (l2F a b) = nr ∧ Rts (n * 2 ^ twP * 2 ^ twP) lo hi nr := by
  obtain ⟨k, k1, k2, k3⟩ := l2F_facts (E := twP) rfl a b
  obtain ⟨h0, h1⟩ := aptA_bd a b
  refine ⟨_, _, _, (aptA a b).2.2.natAbs, by omega, by omega, rfl, rfl, rfl, ?_⟩
  rw [k2]
  by_cases z : (aptA a b).2.2.natAbs = 0
  · rw [z, Nat.zero_mul] at k3
    have kz : k = 0 := by
      rcases Nat.eq_zero_or_pos k with h | h
      · exact h
      · have := val_lt h
        rw [val_zero, k3] at this
        omega
    rw [z, kz, Nat.zero_mul, Nat.zero_mul, show sqB 1 0 = 0 by kernel_rfl, show sqB 2 0 = 0 by kernel_rfl, show sqB 0 0 = 0 by kernel_rfl]
    exact rts_zero
  · have hn : (aptA a b).2.2.natAbs < 17592186044416 := by
      clear k3
      omega
    exact root_rts hn k1 k3 z
/-- The comparisons of what is told. -/
structure LnF (n lo hi nr : Nat) : Prop where
  gt : (FloatKind.f64.format.order lo hi == some .gt) = false
  one : (FloatKind.f64.format.order nr lo == some .eq) = true ∨ (FloatKind.f64.format.order nr hi == some .eq) = true
  eq : (FloatKind.f64.format.order lo hi == some .eq) = decide (lo = hi)
  nx : lo ≠ hi → nextF lo true = hi
  l64 : lo < 18446744073709551616 ∧ hi < 18446744073709551616 ∧ nr < 18446744073709551616
  fin : finB lo = true ∧ finB hi = true
theorem ln_facts {A lo hi nr n : Nat} (h : Rts A lo hi nr) : LnF n lo hi nr := by
  obtain ⟨f, l, nr', o, _, _⟩ := h
  obtain ⟨f1, p1⟩ := fin_fn (k := lo) (by omega)
  obtain ⟨f2, p2⟩ := fin_fn (k := hi) f
  have hnr : nr < 9218868437227405312 := by rcases o with h | h <;> omega
  obtain ⟨f3, p3⟩ := fin_fn (k := nr) hnr
  refine ⟨?_, ?_, ?_, ?_, ⟨by omega, by omega, by omega⟩, ?_⟩
  · rw [gt_num f1.1 f2.1 f1.2 f2.2, p1, p2]; simp; omega
  · rw [eq_num f3.1 f1.1 f3.2 f1.2, eq_num f3.1 f2.1 f3.2 f2.2, p1, p2, p3]; simp; omega
  · rw [eq_num f1.1 f2.1 f1.2 f2.2, p1, p2]; exact decide_eq_decide.2 (by omega)
  · intro ne
    have e : hi = lo + 1 := by omega
    rw [e]
    unfold nextF
    rw [f1.2, p1]
    simp only [Bool.false_eq_true, if_false, if_true]
    rw [show min ((lo : Int) + 1) 9218868437227405312 = ((lo + 1 : Nat) : Int) by omega, ← at_pos (by omega)]
    omega
  · have r : ∀ k, k < 9218868437227405312 → finB k = true := fun k hk => by unfold finB rung; simp; omega
    exact ⟨r _ (by omega), r _ f⟩
end Go.Proofs.YtlhoidkfphellaaDoor

namespace Go.Proofs.YtlhoidkfphellaaDoor
open Go.RowKit

structure LnD (n xl xh : Nat) (D1 E1 D2 E2 : Dy) (i k : Int) : Prop where
  o1 : ofD xl = (D1, 0)
  o2 : ofD xh = (D2, 0)
  m1 : mulD D1 D1 = (E1, 0)
  m2 : mulD D2 D2 = (E2, 0)
  l1 : Lm D1.mag
  l2 : Lm D2.mag
  l3 : Lm E1.mag
  l4 : Lm E2.mag
  r1 : rightB E1 = true
  r2 : rightB E2 = true
  l5 : Lm (intD n).mag
  r3 : rightB (intD n) = true
  c1 : sgI (qd E1 - qd (intD n)) = i
  c2 : sgI (qd (intD n) - qd E2) = k
  i0 : i ≤ 0
  k0 : k ≤ 0
  i1 : (i == 0) = decide (xl = xh)
  k1 : (k == 0) = decide (xl = xh)
theorem vI_pl {x : Nat} (h : x < 9218868437227405312) : vI x = (val x : Int) := by
  have s : sgn x = false := by unfold sgn; simp; omega
  have r : rung x = x := by unfold rung; omega
  unfold vI; rw [s, r]; rfl
theorem sq_fd {x : Nat} (hx : x < 9218868437227405312) (fx : finB x = true) : ∃ D E, ofD x = (D, 0) ∧ Lm D.mag ∧ mulD D D = (E, 0) ∧ Fd E ((val x * val x : Nat) : Int) := by
  obtain ⟨D, hD, hF⟩ := fd_of fx
  obtain ⟨V, hV, hb⟩ := vI_bd fx
  have hbl : bl (vI x * vI x).natAbs ≤ 16384 := bl_sm (n := V + V) (by
    rw [Int.natAbs_mul, Nat.pow_add]
    exact Nat.mul_lt_mul'' hb hb) (by omega)
  refine ⟨D, dz (vI x * vI x), hD, hF.2.1, fd_mul hF hF hbl, ?_⟩
  have := fd_dz hbl
  rw [vI_pl hx] at this ⊢
  rw [Int.natCast_mul]
  exact this
theorem len_dyads {n xl xh xn : Nat} (hn : n ≤ 8796093022208) (h : Rts (n * 2 ^ twP * 2 ^ twP) xl xh xn) : ∃ D1 E1 D2 E2 i k, LnD n xl xh D1 E1 D2 E2 i k := by
  have hf := h.fin
  have hle := h.le
  have fin : ∀ k, k < 9218868437227405312 → finB k = true := fun k hk => by unfold finB rung; simp; omega
  obtain ⟨D1, E1, a1, a2, a3, a4⟩ := sq_fd (x := xl) (by omega) (fin _ (by omega))
  obtain ⟨D2, E2, b1, b2, b3, b4⟩ := sq_fd (x := xh) hf (fin _ hf)
  have hI := kint_facts (n := (n : Int)) (by omega) (by omega)
  have c1 := fd_cmp a4 hI
  have c2 := fd_cmp hI b4
  have e : ((n : Int)) * 2 ^ twP * 2 ^ twP = ((n * 2 ^ twP * 2 ^ twP : Nat) : Int) := by
    rw [Int.natCast_mul, Int.natCast_mul, Int.natCast_pow]; rfl
  rw [e] at c1 c2
  have hs : xl = xh → val xl * val xl = n * 2 ^ twP * 2 ^ twP ∧ val xh * val xh = n * 2 ^ twP * 2 ^ twP := fun q => ⟨h.same q, by rw [← q]; exact h.same q⟩
  have hl := h.less
  have hz : ∀ z : Int, (sgI z == 0) = decide (z = 0) := fun z => by unfold sgI; (repeat' split) <;> simp <;> omega
  have hn0 : ∀ z : Int, z ≤ 0 → sgI z ≤ 0 := fun z hz => by unfold sgI; (repeat' split) <;> omega
  refine ⟨D1, E1, D2, E2, _, _, a1, b1, a3, b3, a2, b2, a4.2.1, b4.2.1, a4.1, b4.1, hI.2.1, hI.1, rfl, rfl, ?_, ?_, ?_, ?_⟩
  · rw [c1]
    refine hn0 _ ?_
    generalize n * 2 ^ twP * 2 ^ twP = A at *
    by_cases q : xl = xh
    · have := hs q; omega
    · have := hl q; omega
  · rw [c2]
    refine hn0 _ ?_
    generalize n * 2 ^ twP * 2 ^ twP = A at *
    by_cases q : xl = xh
    · have := hs q; omega
    · have := hl q; omega
  · rw [c1, hz]
    generalize n * 2 ^ twP * 2 ^ twP = A at *
    refine decide_eq_decide.2 ?_
    by_cases q : xl = xh
    · have := hs q; omega
    · have := hl q; omega
  · rw [c2, hz]
    generalize n * 2 ^ twP * 2 ^ twP = A at *
    refine decide_eq_decide.2 ?_
    by_cases q : xl = xh
    · have := hs q; omega
    · have := hl q; omega
/-- Three cells of another box are written. -/
abbrev set3 (w : World) (P : Nat) (a b c : Value) : World := ((w.setCell ⟨P, 0, none⟩ a).setCell ⟨P, 1, none⟩ b).setCell ⟨P, 2, none⟩ c
theorem cell_far3 {w : World} {P Q o : Nat} (hq : Q ≠ P) (a b c : Value) : (set3 w P a b c).cell? ⟨Q, o, none⟩ = w.cell? ⟨Q, o, none⟩ := by
  unfold set3
  rw [World.cell?_setCell_other _ _ _ _ (fun e => hq (by have := congrArg Addr.block e; simpa using this.symm)), World.cell?_setCell_other _ _ _ _ (fun e => hq (by have := congrArg Addr.block e; simpa using this.symm)), World.cell?_setCell_other _ _ _ _ (fun e => hq (by have := congrArg Addr.block e; simpa using this.symm))]
theorem hd_far {w : World} {P Q B : Nat} {d : Dy} {o : Option Addr} {c : Nat} (h : Hd w Q d o c) (hq : Q ≠ P) (hf : Frs B o) (hp : P < B) (x y z : Value) : Hd (set3 w P x y z) Q d o c :=
  ⟨(cell_far3 hq x y z).trans h.c0, (cell_far3 hq x y z).trans h.c1, (cell_far3 hq x y z).trans h.c2, ((h.row.box hf hp _ _).box hf hp _ _).box hf hp _ _⟩
theorem fzr_set {w : World} {P Q : Nat} (h : Fzr w Q) (a b c : Value) : Fzr (set3 w P a b c) Q := by
  obtain ⟨f0, f1, f2⟩ := h
  refine ⟨?_, ?_, ?_⟩ <;> simp [go_sem, f0, f1, f2]
theorem bx_far {w : World} {P Q : Nat} {x y : Value} (h : Bx w Q x y) (hq : Q ≠ P) (a b c : Value) : Bx (set3 w P a b c) Q x y := by
  obtain ⟨h1, h2, h3, h4, h5⟩ := h
  refine ⟨(cell_far3 hq a b c).trans h1, (cell_far3 hq a b c).trans h2, ?_, ?_, ?_⟩
  · simp [go_sem, h3]
  · simp [go_sem, h4]
  · simpa [go_sem] using h5
theorem below_set3 {B : Nat} {w w' : World} (h : Below B w w') {P : Nat} (hP : B ≤ P) (a b c : Value) : Below B w (set3 w' P a b c) :=
  ((h.setCell (p := ⟨P, 0, none⟩) hP _).setCell (p := ⟨P, 1, none⟩) hP _).setCell (p := ⟨P, 2, none⟩) hP _
end Go.Proofs.YtlhoidkfphellaaDoor

namespace Go.Proofs.YtlhoidkfphellaaDoor
open Go.RowKit

theorem ord_eq_self {a : Nat} (ha : a < 18446744073709551616) (na : nanB a = false) : (FloatKind.f64.format.order a a == some .eq) = true := by
  rw [eq_num ha ha na na]; simp
theorem ord_swap {a b : Nat} (ha : a < 18446744073709551616) (hb : b < 18446744073709551616) (na : nanB a = false) (nb : nanB b = false) : (FloatKind.f64.format.order a b == some .eq) = (FloatKind.f64.format.order b a == some .eq) := by
  rw [eq_num ha hb na nb, eq_num hb ha nb na]
  exact decide_eq_decide.2 (by omega)
theorem fin_nan {a : Nat} (h : finB a = true) : nanB a = false := by
  unfold finB at h
  unfold nanB
  simp at h ⊢
  omega
set_option maxRecDepth 100000 in
set_option maxHeartbeats 8000000 in
theorem length_law (x y p q : Int) (w : World) (hT : TabW w) :
    Calls Tryd.prog 5 #[.int .i64 x, .int .i64 y, .int .i64 p, .int .i64 q] w fun e w' => e = .returned (.bool true) ∧ Below w.heap.size w w' := by
  have hst := run_storef Tryd.prog
  have ca := jawake_any w hT
  have cp := fun w' => point_any x y w'
  have cq := fun w' => point_any p q w'
  unfold jV at cp cq
  simp only at cp cq
  go_enter Tryd.func5, Tryd.ntmps5
  go_upto_region 3 with (go_at_call 11; refine ca.mono ?_; rintro e w1 ⟨rfl, b1⟩)
  go_upto_region 4 with (first | (go_at_call_of 14 (Value.int IntKind.i64 x); refine (cp _).mono ?_; rintro e w2 ⟨X1, Y1, rfl, hX1, hY1, b2⟩) | (go_at_call 14; refine (cq _).mono ?_; rintro e w3 ⟨X2, Y2, rfl, hX2, hY2, b3⟩))
  clear ca cp cq
  have J1 := (JBox.new w3 (.string pN) (.int .i32 X1) (.int .i32 Y1) (.int .u8 0) 33).alloc (.cells #[.string pN, .int .i32 X2, .int .i32 Y2, .int .u8 0] 33)
  have J2 := JBox.new (w3.alloc (.cells #[.string pN, .int .i32 X1, .int .i32 Y1, .int .u8 0] 33)) (.string pN) (.int .i32 X2) (.int .i32 Y2) (.int .u8 0) 33
  have hs1 : (w3.alloc (.cells #[.string pN, .int .i32 X1, .int .i32 Y1, .int .u8 0] 33)).heap.size = w3.heap.size + 1 := by simp
  rw [hs1] at J2
  have hb3 := (b1.trans (b2.mono b1.size)).trans (b3.mono (Nat.le_trans b1.size b2.size))
  have hb4 := (hb3.alloc hb3.size (.cells #[.string pN, .int .i32 X1, .int .i32 Y1, .int .u8 0] 33)).alloc (by rw [hs1]; have := hb3.size; omega) (.cells #[.string pN, .int .i32 X2, .int .i32 Y2, .int .u8 0] 33)
  clear hs1 b1 b2 b3 hb3
  generalize (w3.alloc (.cells #[.string pN, .int .i32 X1, .int .i32 Y1, .int .u8 0] 33)).alloc (.cells #[.string pN, .int .i32 X2, .int .i32 Y2, .int .u8 0] 33) = W0 at *
  generalize w3.heap.size = P at *
  have cA := fun w' => apart_any (pN, X1, Y1, 0) (pN, X2, Y2, 0) w'
  have cL := fun w' (t : TabW w') => length_any (pN, X1, Y1, 0) (pN, X2, Y2, 0) w' t
  have eA := apt_in (a := (pN, X1, Y1, 0)) (b := (pN, X2, Y2, 0)) hX1 hY1 hX2 hY2
  obtain ⟨xl, xh, xn, n, hn, hn2, e1, e2, e0, hR⟩ := length_rts (pN, X1, Y1, 0) (pN, X2, Y2, 0)
  rw [e1, e2, e0] at cL
  rw [eA] at cA hn
  clear e0 e1 e2 eA
  unfold jV at cA cL
  simp only at cA cL hn
  rw [← hn] at cA
  have HN : Hid _ := hn
  clear hn
  have w1 : IntKind.i64.wrap X1 = X1 := wrap_q (by omega) (by omega)
  have w2 : IntKind.i64.wrap Y1 = Y1 := wrap_q (by omega) (by omega)
  have w3 : IntKind.i64.wrap X2 = X2 := wrap_q (by omega) (by omega)
  have w4 : IntKind.i64.wrap Y2 = Y2 := wrap_q (by omega) (by omega)
  have d1 : -2097152 ≤ X2 - X1 ∧ X2 - X1 ≤ 2097152 := by omega
  have d2 : -2097152 ≤ Y2 - Y1 ∧ Y2 - Y1 ≤ 2097152 := by omega
  obtain ⟨x0, x1, x2, x3, _, _, _, _, _⟩ := id J1
  obtain ⟨y0, y1, y2, y3, _, _, _, _, _⟩ := id J2
  go_upto_region 5 with (go_at_call 15; refine (cA _).mono ?_; rintro e v1 ⟨rfl, c1⟩)
  replace J1 := J1.below c1
  replace J2 := J2.below c1
  have hb5 := hb4.trans (c1.mono hb4.size)
  have T5 := tabW_below hT hb5
  clear cA c1 hb4 x0 x1 x2 x3 y0 y1 y2 y3
  obtain ⟨x0, x1, x2, x3, _, _, _, _, _⟩ := id J1
  obtain ⟨y0, y1, y2, y3, _, _, _, _, _⟩ := id J2
  go_upto_region 6 with (go_at_call 16; refine (cL _ T5).mono ?_; rintro e v2 ⟨rfl, c2⟩)
  have hb6 := hb5.trans (c2.mono hb5.size)
  replace hb6 := hb6.alloc hb6.size (.cells #[.float .f64 xl, .float .f64 xh] 40)
  replace J1 := (J1.below c2).alloc (.cells #[.float .f64 xl, .float .f64 xh] 40)
  replace J2 := (J2.below c2).alloc (.cells #[.float .f64 xl, .float .f64 xh] 40)
  have S1 := Bx.new v2 (.float .f64 xl) (.float .f64 xh) 40
  generalize v2.alloc (.cells #[.float .f64 xl, .float .f64 xh] 40) = W at *
  generalize v2.heap.size = G at *
  clear cL c2 hb5 T5 x0 x1 x2 x3 y0 y1 y2 y3
  have HF : Hid (LnF n xl xh xn) := ln_facts hR
  have HR : Hid (Rts _ xl xh xn) := hR
  have HO : Hid (xn = xl ∨ xn = xh) := hR.one
  clear hR
  go_cut [107] from 43 to 106 (fun s107 wx => s107 = .bool false ∧ Below W.heap.size W wx)
  case first =>
    as_aux_lemma =>
      obtain ⟨x0, x1, x2, x3, _, _, _, _, _⟩ := id J1
      obtain ⟨y0, y1, y2, y3, _, _, _, _, _⟩ := id J2
      obtain ⟨s0, s1, _, _, _⟩ := id S1
      have sq1 := sq_le d1
      have sq2 := sq_le d2
      have w5 : IntKind.i64.wrap ((X2 - X1) * (X2 - X1)) = (X2 - X1) * (X2 - X1) := wrap_q (by omega) (by omega)
      have w6 : IntKind.i64.wrap ((Y2 - Y1) * (Y2 - Y1)) = (Y2 - Y1) * (Y2 - Y1) := wrap_q (by omega) (by omega)
      have w7 : IntKind.i64.wrap ((X2 - X1) * (X2 - X1) + (Y2 - Y1) * (Y2 - Y1)) = (X2 - X1) * (X2 - X1) + (Y2 - Y1) * (Y2 - Y1) := wrap_q (by omega) (by omega)
      have w8 : IntKind.i64.wrap (X2 - X1) = X2 - X1 := wrap_q (by omega) (by omega)
      have w9 : IntKind.i64.wrap (Y2 - Y1) = Y2 - Y1 := wrap_q (by omega) (by omega)
      have m1 : (X2 - X1 != X2 - X1) = false := by simp
      have m2 : (Y2 - Y1 != Y2 - Y1) = false := by simp
      have n1 : ((n : Int) != (X2 - X1) * (X2 - X1) + (Y2 - Y1) * (Y2 - Y1)) = false := by rw [HN.out]; simp
      obtain ⟨o1, oo, oe, nx, ⟨l1, l2, l3⟩, ff⟩ := HF.out
      have cN := fun w' => next_any xl true l1 w'
      clear J1 J2 S1 HF HR sq1 sq2
      simp only [List.append_eq, List.cons_append, List.nil_append]
      have HF1 : Hid (nanB xl = false) := fin_nan ff.1
      have HF2 : Hid (nanB xh = false) := fin_nan ff.2
      have HQ : Hid (¬ xl = xh → (FloatKind.f64.format.order xh xl != some .eq) = true) := fun q => by
        rw [bne, ord_swap l2 l1 HF2.out HF1.out, oe]
        simpa using q
      by_cases e : xl = xh
      · have o2 : (FloatKind.f64.format.order xl xl == some .eq) = true := by rw [← e] at oe; simpa using oe
        have en : xn = xl := by rcases HO.out with h | h <;> omega
        clear HO
        subst e en
        have o3 : (FloatKind.f64.format.order xn xn != some .eq) = false := by simpa using o2
        clear oo oe nx
        cases o4 : (FloatKind.f64.format.order (nextF xn true) xn != some .eq)
        all_goals
          go_quiet ((go_at_call 17; exact Calls.quiet_of_same (cN _)))
          go_wp2
          go_meet
          exact ⟨rfl, below_drewN (Below.refl _ _) _⟩
      · have en := nx e
        rw [en] at cN
        have o2 : (FloatKind.f64.format.order xh xh == some .eq) = true := ord_eq_self l2 HF2.out
        have o3 : (FloatKind.f64.format.order xh xh != some .eq) = false := by simpa using o2
        have o4 : (FloatKind.f64.format.order xl xh != some .eq) = true := by simpa [e] using oe
        have o6 : (FloatKind.f64.format.order xl xl == some .eq) = true := ord_eq_self l1 HF1.out
        have o7 : (FloatKind.f64.format.order xl xl != some .eq) = false := by simpa using o6
        clear oo oe nx
        rcases HO.out with h | h
        · clear HO e en
          subst h
          go_quiet ((go_at_call 17; exact Calls.quiet_of_same (cN _)))
          go_wp2
          go_meet
          exact ⟨rfl, below_drewN (Below.refl _ _) _⟩
        · have o8 := HQ.out e
          clear HO e en
          subst h
          go_quiet ((go_at_call 17; exact Calls.quiet_of_same (cN _)))
          go_wp2
          go_meet
          exact ⟨rfl, below_drewN (Below.refl _ _) _⟩
  obtain ⟨rfl, cW⟩ := hcut
  replace hb6 := hb6.trans (cW.mono hb6.size)
  have hw1 := hb6.size
  replace S1 := S1.below cW
  clear J1 J2 cW
  obtain ⟨D1, E1, D2, E2, i, k, LD⟩ := len_dyads hn2 HR.out
  have HLD : Hid (LnD n xl xh D1 E1 D2 E2 i k) := LD
  obtain ⟨fo1, fo2, fm1, fm2, lm1, lm2, lm3, lm4, rb1, rb2, lm5, rb3, cc1, cc2, hi0, hk0, hi1, hk1⟩ := LD
  obtain ⟨_, _, oe, _, ⟨l1, l2, _⟩, _⟩ := HF.out
  have T7 := tabW_below hT hb6
  have cO1 := Of_any xl l1 wc T7
  rw [fo1] at cO1
  unfold Gave at cO1
  simp only at cO1
  obtain ⟨s0, s1, _, _, _⟩ := id S1
  clear fo1 HR HN w1 w2 w3 w4 d1 d2 hX1 hX2 hY1 hY2
  go_upto_region 9 with (go_at_call 18; refine cO1.mono ?_; rintro e u1 ⟨ao1, ac1, rfl, ra1, fr1, b1⟩)
  have H1 := Hd.new (cap := ac1) ra1
  have Z1 : Fzr (u1.alloc (.cells #[.bool D1.neg, .slice ao1 D1.mag.length ac1, .int .i64 D1.exp] 46)) u1.heap.size := by refine ⟨?_, ?_, ?_⟩ <;> simp [go_sem]
  have z1 := b1.alloc b1.size (.cells #[.bool D1.neg, .slice ao1 D1.mag.length ac1, .int .i64 D1.exp] 46)
  have q1 : u1.heap.size < (u1.alloc (.cells #[.bool D1.neg, .slice ao1 D1.mag.length ac1, .int .i64 D1.exp] 46)).heap.size := by simp
  have g1 : G < u1.heap.size := Nat.lt_of_lt_of_le S1.2.2.2.2 b1.size
  generalize u1.alloc (.cells #[.bool D1.neg, .slice ao1 D1.mag.length ac1, .int .i64 D1.exp] 46) = U1 at *
  have hP1 : wc.heap.size ≤ u1.heap.size := b1.size
  generalize u1.heap.size = P1 at *
  replace hb6 := hb6.trans (z1.mono hb6.size)
  replace S1 := S1.below z1
  clear b1 z1 cO1 ra1 T7 s0 s1
  obtain ⟨s0, s1, _, _, _⟩ := id S1
  have T8 := tabW_below hT hb6
  have cO2 := Of_any xh l2 U1 T8
  rw [fo2] at cO2
  unfold Gave at cO2
  simp only at cO2
  go_upto_region 10 with (go_at_call 18; refine cO2.mono ?_; rintro e u2 ⟨ao2, ac2, rfl, ra2, fr2, b2⟩)
  have H2 := Hd.new (cap := ac2) ra2
  have Z2 : Fzr (u2.alloc (.cells #[.bool D2.neg, .slice ao2 D2.mag.length ac2, .int .i64 D2.exp] 46)) u2.heap.size := by refine ⟨?_, ?_, ?_⟩ <;> simp [go_sem]
  have z2 := b2.alloc b2.size (.cells #[.bool D2.neg, .slice ao2 D2.mag.length ac2, .int .i64 D2.exp] 46)
  have q2 : u2.heap.size < (u2.alloc (.cells #[.bool D2.neg, .slice ao2 D2.mag.length ac2, .int .i64 D2.exp] 46)).heap.size := by simp
  have g2 : P1 < u2.heap.size := Nat.lt_of_lt_of_le q1 b2.size
  generalize u2.alloc (.cells #[.bool D2.neg, .slice ao2 D2.mag.length ac2, .int .i64 D2.exp] 46) = U2 at *
  generalize u2.heap.size = P2 at *
  have hwP1 : w.heap.size ≤ P1 := Nat.le_trans hw1 hP1
  replace hb6 := hb6.trans (z2.mono hb6.size)
  replace S1 := S1.below z2
  replace Z1 := Z1.below q1 z2
  replace H1 := H1.below z2
  have fr2' : Frs (P1 + 1) ao2 := fr2.mono q1
  clear b2 z2 cO2 ra2 T8 s0 s1 fr1 fr2
  obtain ⟨a0, a1, a2, ar⟩ := id H1
  have T9 := tabW_below hT hb6
  have cM1 := mul_any D1 D1 ao1 ao1 ac1 ac1 U2 ar ar lm1 lm1 T9
  rw [fm1] at cM1
  unfold Gave at cM1
  simp only at cM1
  obtain ⟨f0, f1, f2⟩ := id Z1
  go_upto_region 12 with fail
  go_upto_region 13 with (go_at_call 19; refine cM1.mono ?_; rintro e u3 ⟨ao3, ac3, rfl, ra3, fr3, b3⟩; have Z3 := Z1.below (by have := q2; omega) b3; obtain ⟨h0, h1, h2⟩ := id Z3; have H3 := H1.below b3; obtain ⟨d0, d1, d2, _⟩ := id H3)
  have P3 := put3r (c := ac3) (E := E1) H3 Z3 ra3 fr3 (by omega)
  have hb7 := below_set3 (hb6.trans (b3.mono hb6.size)) hwP1 (.bool E1.neg) (.slice ao3 E1.mag.length ac3) (.int .i64 E1.exp)
  replace H2 := hd_far (H2.below b3) (show P2 ≠ P1 by omega) fr2' (Nat.lt_succ_self _) (.bool E1.neg) (.slice ao3 E1.mag.length ac3) (.int .i64 E1.exp)
  replace Z2 := fzr_set (P := P1) (Z2.below q2 b3) (.bool E1.neg) (.slice ao3 E1.mag.length ac3) (.int .i64 E1.exp)
  replace S1 := bx_far (S1.below b3) (show G ≠ P1 by omega) (.bool E1.neg) (.slice ao3 E1.mag.length ac3) (.int .i64 E1.exp)
  have q3 : P2 < (set3 u3 P1 (.bool E1.neg) (.slice ao3 E1.mag.length ac3) (.int .i64 E1.exp)).heap.size := by
    have := b3.size
    simp
    omega
  have fr4 : Frs (P2 + 1) ao3 := fr3.mono q2
  clear f0 f1 f2 h0 h1 h2 d0 d1 d2 a0 a1 a2 ar cM1 fm1 Z1 H1 Z3 H3 ra3 fr3 b3 hb6 T9
  unfold set3 at hb7 H2 Z2 S1 q3
  generalize ((u3.setCell ⟨P1, 0, none⟩ (.bool E1.neg)).setCell ⟨P1, 1, none⟩ (.slice ao3 E1.mag.length ac3)).setCell ⟨P1, 2, none⟩ (.int .i64 E1.exp) = V at *
  obtain ⟨H1, Z1⟩ := P3
  obtain ⟨a0, a1, a2, ar⟩ := id H2
  have T9 := tabW_below hT hb7
  have cM2 := mul_any D2 D2 ao2 ao2 ac2 ac2 V ar ar lm2 lm2 T9
  rw [fm2] at cM2
  unfold Gave at cM2
  simp only at cM2
  obtain ⟨f0, f1, f2⟩ := id Z2
  go_upto_region 14 with (go_at_call 19; refine cM2.mono ?_; rintro e u4 ⟨ao4, ac4, rfl, ra4, fr5, b4⟩; have Z3 := Z2.below q3 b4; obtain ⟨h0, h1, h2⟩ := id Z3; have H3 := H2.below b4; obtain ⟨d0, d1, d2, _⟩ := id H3)
  have P4 := put3r (c := ac4) (E := E2) H3 Z3 ra4 fr5 q3
  have hb8 := below_set3 (hb7.trans (b4.mono hb7.size)) (show w.heap.size ≤ P2 by omega) (.bool E2.neg) (.slice ao4 E2.mag.length ac4) (.int .i64 E2.exp)
  replace H1 := hd_far (H1.below b4) (show P1 ≠ P2 by omega) fr4 (Nat.lt_succ_self _) (.bool E2.neg) (.slice ao4 E2.mag.length ac4) (.int .i64 E2.exp)
  replace S1 := bx_far (S1.below b4) (show G ≠ P2 by omega) (.bool E2.neg) (.slice ao4 E2.mag.length ac4) (.int .i64 E2.exp)
  clear f0 f1 f2 h0 h1 h2 d0 d1 d2 a0 a1 a2 ar cM2 fm2 Z1 Z2 H2 Z3 H3 ra4 fr5 b4 hb7 T9 fr4 fr2' q3
  unfold set3 at hb8 H1 S1
  generalize ((u4.setCell ⟨P2, 0, none⟩ (.bool E2.neg)).setCell ⟨P2, 1, none⟩ (.slice ao4 E2.mag.length ac4)).setCell ⟨P2, 2, none⟩ (.int .i64 E2.exp) = V2 at *
  obtain ⟨H2, _⟩ := P4
  go_upto_region 16 with fail
  have T9 := tabW_below hT hb8
  have cI := fun w' (t : TabW w') => Int_any (n : Int) (by omega) (by omega) w' t
  unfold GaveD at cI
  generalize intD n = I at *
  have cC := fun w' ao cap bo bc (h : LRow w' ao E1.mag) (g : LRow w' bo I.mag) => Cmp_right E1 I ao bo cap bc w' h g lm3 lm5 rb1 rb3
  have cE := fun w' ao cap bo bc (h : LRow w' bo E2.mag) (g : LRow w' ao I.mag) => Cmp_right I E2 ao bo cap bc w' g h lm5 lm4 rb3 rb2
  rw [cc1] at cC
  rw [cc2] at cE
  have bD := (Below.refl V2.heap.size V2).drew
  have TD := tabW_below T9 bD
  go_cut [20, 17] from 144 to 150 (fun s20 s17 wx => s20 = .int .i64 i ∧ s17 = .int .i64 0 ∧ Below V2.heap.size V2 wx)
  case first =>
    as_aux_lemma =>
      obtain ⟨a0, a1, a2, ar⟩ := id H1
      go_region_with (first
        | (go_at_call 21; refine (cI _ TD).mono ?_; rintro e x1 ⟨ao5, ac5, rfl, ra5, _, b5⟩; have b6 := bD.trans b5; have H5 := H1.below b6; obtain ⟨d0, d1, d2, dr⟩ := id H5)
        | (go_at_call 20; refine (cC _ _ _ _ _ dr ra5).mono ?_; rintro e x2 ⟨rfl, b7⟩))
      all_goals
        go_wp2
        go_meet
        exact ⟨rfl, rfl, b6.trans (b7.mono b6.size)⟩
  obtain ⟨rfl, rfl, cX⟩ := hcut
  have hb9 := hb8.trans (cX.mono hb8.size)
  replace H2 := H2.below cX
  replace S1 := S1.below cX
  have T10 := tabW_below hT hb9
  clear cX hb8 H1 T9 TD bD cC
  go_upto_region 17 with fail
  have bD := (Below.refl wc.heap.size wc).drew
  have TD := tabW_below T10 bD
  go_cut [21, 19] from 151 to 157 (fun s21 s19 wx => s21 = .int .i64 k ∧ s19 = .int .i64 0 ∧ Below wc.heap.size wc wx)
  case first =>
    as_aux_lemma =>
      obtain ⟨a0, a1, a2, ar⟩ := id H2
      go_region_with (first
        | (go_at_call 21; refine (cI _ TD).mono ?_; rintro e x1 ⟨ao5, ac5, rfl, ra5, _, b5⟩; have b6 := bD.trans b5; have H5 := H2.below b6; obtain ⟨d0, d1, d2, dr⟩ := id H5)
        | (go_at_call 20; refine (cE _ _ _ _ _ dr ra5).mono ?_; rintro e x2 ⟨rfl, b7⟩))
      all_goals
        go_wp2
        go_meet
        exact ⟨rfl, rfl, b6.trans (b7.mono b6.size)⟩
  obtain ⟨rfl, rfl, cX⟩ := hcut
  have hb10 := hb9.trans (cX.mono hb9.size)
  replace S1 := S1.below cX
  obtain ⟨s0, s1, _, _, _⟩ := id S1
  clear cX hb9 H2 T10 TD bD cE cI cc1 cc2 HLD HF
  as_aux_lemma =>
    by_cases e : xl = xh
    · have i1 : (i == 0) = true := by rw [hi1]; simpa using e
      have k1 : (k == 0) = true := by rw [hk1]; simpa using e
      have o1 : (FloatKind.f64.format.order xl xh == some .eq) = true := by rw [oe]; simpa using e
      clear hi1 hk1 oe e
      go_wp2
      go_ret
      exact ⟨rfl, hb10⟩
    · have i1 : (i == 0) = false := by rw [hi1]; simpa using e
      have k1 : (k == 0) = false := by rw [hk1]; simpa using e
      have o1 : (FloatKind.f64.format.order xl xh == some .eq) = false := by rw [oe]; simpa using e
      clear hi1 hk1 oe e
      go_wp2
      go_ret
      exact ⟨rfl, hb10⟩
end Go.Proofs.YtlhoidkfphellaaDoor
