/- Six arguments of a row. (Plain.) -/
import Derived.Test.YtlhoidkfphellaaDoorJB
import Derived.Test.YtlhoidkfphellaaDoorWA
import Derived.Orders
import Derived.RowKit
import Derived.Test.YtlhoidkfphellaaDoorZK
import Derived.Carry
namespace Go.Proofs.YtlhoidkfphellaaDoor
open Go.RowKit

def p18 : Nat := 65536
theorem kint_sv (n : Int) : sv ⟨decide (n < 0), [n.natAbs], 0⟩ = n := by
  unfold sv
  simp only [vl]
  by_cases h : n < 0
  · rw [decide_eq_true h]; simp; omega
  · rw [decide_eq_false h]; simp; omega
theorem kint_facts {n : Int} (h1 : -9223372036854775808 ≤ n) (h2 : n ≤ 9223372036854775807) : Fd (intD n) (n * 2 ^ twP * 2 ^ twP) := by
  have e : intD n = (nrm n 0).1 := by unfold intD normD; rw [kint_sv]
  have hb : bl n.natAbs ≤ 64 := bl_le_iff.2 (by omega)
  have ht : (nrm n 0).2 = 0 := nrm_told (by omega) (by omega) (by omega)
  obtain ⟨r1, r2⟩ := nrm_ok ht
  rw [e]
  refine ⟨r1, nrm_lm n 0, ?_⟩
  have h := r2 (-65536) (by omega) (by omega)
  unfold qd
  rw [show (nrm n 0).1.exp - -65536 = (nrm n 0).1.exp + 65536 by omega] at h
  rw [h, show ((0 : Int) - -65536).toNat = p18 from rfl, Int.mul_assoc, Int.mul_assoc, ← Int.pow_add, ← Int.pow_add, show twP + (twP + puH) = p18 from rfl]
/-- 2^22 as a float. -/
theorem val_t22 {E : Nat} (hE : E = 1074) : val 4706261610602168320 = 4194304 * 2 ^ E := by
  obtain ⟨k, hk⟩ : ∃ k : Nat, k = 4706261610602168320 := ⟨_, rfl⟩
  rw [← hk]
  unfold val
  rw [if_neg (by omega)]
  have q1 : k % 4503599627370496 = 0 := by omega
  have q2 : k / 4503599627370496 - 1 = E - 30 := by omega
  rw [q1, q2, Nat.add_zero, show (4503599627370496 : Nat) = 4194304 * 2 ^ 30 by decide, Nat.mul_assoc, ← Nat.pow_add, show 30 + (E - 30) = E by omega]
/-- What is told of the root of n. -/
structure Rts (A lo hi nr : Nat) : Prop where
  fin : hi < 9218868437227405312
  le : lo ≤ hi
  near : hi ≤ lo + 1
  one : nr = lo ∨ nr = hi
  same : lo = hi → val lo * val lo = A
  less : lo ≠ hi → val lo * val lo < A ∧ A < val hi * val hi
theorem rts_zero : Rts 0 0 0 0 := ⟨by omega, by omega, by omega, Or.inl rfl, fun _ => by rw [val_zero], fun h => absurd rfl h⟩
theorem root_rts {n x : Nat} (hn : n < 17592186044416) (hx : x < 9218868437227405312) (hv : val x = n * 2 ^ twP) (h0 : n ≠ 0) : Rts (n * 2 ^ twP * 2 ^ twP) (sqB 1 x) (sqB 2 x) (sqB 0 x) := by
  have hs : sgn x = false := by unfold sgn; simp; omega
  have hr : rung x = x := by unfold rung; omega
  have x0 : x ≠ 0 := fun e => by
    rw [e, val_zero] at hv
    have := Nat.two_pow_pos twP
    rcases Nat.mul_eq_zero.1 hv.symm with h | h <;> omega
  have fx : finB x = true := by unfold finB; rw [hr]; simpa using hx
  have sx : someB x = true := by unfold someB; rw [fx, hr]; simpa using x0
  have e : ∀ m, sqB m x = stepF (tQ x) (tS x) m := fun m => by unfold sqB; rw [sx, hs]; rfl
  obtain ⟨k, r, ⟨hk, b0, b1, b2⟩, hf⟩ := sqrt_told (by omega) sx hs
  have f : ∀ m, sqB m x = Ieee.double.word false (rgS k r m) := fun m => (e m).trans (hf m)
  rw [f, f, f, word_pos, word_pos, word_pos]
  rw [hr, hv] at b0 b1 b2
  simp only at b0 b1 b2
  have hA : n * 2 ^ twP * 2 ^ twP < val 4706261610602168320 * val 4706261610602168320 := by
    rw [val_t22 (E := twP) rfl, show 4194304 * 2 ^ twP * (4194304 * 2 ^ twP) = 17592186044416 * 2 ^ twP * 2 ^ twP by
      generalize (2 : Nat) ^ twP = c
      rw [show (17592186044416 : Nat) = 4194304 * 4194304 by decide]
      ac_rfl]
    have hc := Nat.two_pow_pos twP
    generalize (2 : Nat) ^ twP = c at hc ⊢
    exact Nat.mul_lt_mul_of_pos_right (Nat.mul_lt_mul_of_pos_right hn hc) hc
  have hbig : ∀ j, val j * val j < n * 2 ^ twP * 2 ^ twP → j < 4706261610602168320 := fun j hj => by
    rcases Nat.lt_or_ge j 4706261610602168320 with q | q
    · exact q
    · have h1 := Nat.mul_le_mul (val_le_D q) (val_le_D q)
      omega
  generalize n * 2 ^ twP * 2 ^ twP = A at *
  unfold rgS
  rcases (show r = 0 ∨ 0 < r ∨ r < 0 by omega) with q | q | q
  · obtain ⟨c1, c2⟩ := b0 q
    subst q
    simp
    exact ⟨c1, by omega, by omega, Or.inl rfl, fun _ => c2, fun h => absurd rfl h⟩
  · obtain ⟨c1, c2, c3⟩ := b1 q
    have c4 := hbig k c2
    simp [q, show ¬ r < 0 by omega]
    exact ⟨by omega, by omega, by omega, Or.inl rfl, fun h => by omega, fun _ => ⟨c2, c3 (by omega)⟩⟩
  · obtain ⟨c1, c2, c3⟩ := b2 q
    have c4 := hbig (k - 1) c2
    simp [q, show ¬ 0 < r by omega]
    exact ⟨by omega, by omega, by omega, Or.inr rfl, fun h => by omega, fun _ => ⟨c2, c3 (by omega)⟩⟩
end Go.Proofs.YtlhoidkfphellaaDoor

namespace Go.Proofs.YtlhoidkfphellaaDoor
open Go.RowKit

set_option maxHeartbeats 400000 in
theorem pick_c (x : Int) (c : Nat) (h1 : 1 ≤ c) (h2 : c ≤ 1000000000) (w : World) : Calls Tryd.prog 32 #[.int .i64 x, .int .i64 c] w fun e w' => ∃ m : Int, e = .returned (.int .i64 m) ∧ 0 ≤ m ∧ m < c ∧ w' = w := by
  have b1 : x.tmod c < c := Int.tmod_lt_of_pos x (by omega)
  have b2 : -(c : Int) < x.tmod c := by
    have := Int.tmod_lt_of_pos (-x) (show (0 : Int) < c by omega)
    rw [Int.neg_tmod] at this
    omega
  have c0 : ¬ (c : Int) = 0 := by omega
  by_cases h : x.tmod c < 0
  · generalize hy : x.tmod c = y at *
    go_enter Tryd.func32, Tryd.ntmps32
    go_wp2
    go_ret
    exact ⟨_, rfl, by omega, by omega, rfl⟩
  · generalize hy : x.tmod c = y at *
    go_enter Tryd.func32, Tryd.ntmps32
    go_wp2
    go_ret
    exact ⟨_, rfl, by omega, by omega, rfl⟩
/-- The name of a point. -/
def pN : ByteArray := ⟨#[112]⟩
set_option maxHeartbeats 1000000 in
theorem point_any (x y : Int) (w : World) : Calls Tryd.prog 14 #[.int .i64 x, .int .i64 y] w fun e w' => ∃ X Y : Int, e = .returned (jV (pN, X, Y, 0)) ∧ (-1048576 ≤ X ∧ X ≤ 1048576) ∧ (-1048576 ≤ Y ∧ Y ≤ 1048576) ∧ Below w.heap.size w w' := by
  have cx := fun w' => pick_c x 2097153 (by omega) (by omega) w'
  have cy := fun w' => pick_c y 2097153 (by omega) (by omega) w'
  unfold jV
  simp only
  have X0 := JBox.new w (.string ByteArray.empty) (.int .i32 0) (.int .i32 0) (.int .u8 0) 33
  have hb0 : Below w.heap.size w (w.alloc (.cells #[.string ByteArray.empty, .int .i32 0, .int .i32 0, .int .u8 0] 33)) := (Below.refl _ _).alloc (Nat.le_refl _) _
  go_enter Tryd.func14, Tryd.ntmps14
  go_upto_region 1 with fail
  generalize w.alloc (.cells #[.string ByteArray.empty, .int .i32 0, .int .i32 0, .int .u8 0] 33) = W0 at *
  obtain ⟨x0, x1, x2, x3, f0, f1, f2, f3, xl⟩ := id X0
  go_wp2_with (first | (go_at_call_of 32 (Value.int IntKind.i64 x); refine (cx _).mono ?_; rintro e w1 ⟨m, rfl, m1, m2, rfl⟩) | (go_at_call 32; refine (cy _).mono ?_; rintro e w2 ⟨n, rfl, n1, n2, rfl⟩))
  exact bodyPost_ret (v := .agg #[.string ⟨#[112]⟩, .int .i32 (m - 1048576), .int .i32 (n - 1048576), .int .u8 0]) (by simp [results, Tryd.results14, go_sem]) rfl ⟨m - 1048576, n - 1048576, rfl, ⟨by omega, by omega⟩, ⟨by omega, by omega⟩, (Below.refl _ _).alloc (Nat.le_refl _) _⟩
end Go.Proofs.YtlhoidkfphellaaDoor

namespace Go.Proofs.YtlhoidkfphellaaDoor
open Go.RowKit

theorem apt_in {a b : Jn} (h1 : -1048576 ≤ a.2.1 ∧ a.2.1 ≤ 1048576) (h2 : -1048576 ≤ a.2.2.1 ∧ a.2.2.1 ≤ 1048576) (h3 : -1048576 ≤ b.2.1 ∧ b.2.1 ≤ 1048576) (h4 : -1048576 ≤ b.2.2.1 ∧ b.2.2.1 ≤ 1048576) :
    aptA a b = (b.2.1 - a.2.1, b.2.2.1 - a.2.2.1, (b.2.1 - a.2.1) * (b.2.1 - a.2.1) + (b.2.2.1 - a.2.2.1) * (b.2.2.1 - a.2.2.1)) := by
  have k : ∀ x : Int, -1048576 ≤ x ∧ x ≤ 1048576 → crB x = true := fun x h => by unfold crB; simp; omega
  unfold aptA aptB
  rw [k _ h1, k _ h2, k _ h3, k _ h4]
  rfl
/-- The three floats told of a length. -/
theorem length_rts (a b : Jn) : ∃ lo hi nr n : Nat, (n : Int) = (aptA a b).2.2 ∧ n ≤ 8796093022208 ∧ sqB 1 (l2F a b) = lo ∧ sqB 2 (l2F a b) = hi ∧ sqB 0 (l2F a b) = nr ∧ Rts (n * 2 ^ twP * 2 ^ twP) lo hi nr := by
  obtain ⟨k, k1, k2, k3⟩ := l2F_facts (E := twP) rfl a b
  obtain ⟨h0, h1⟩ := aptA_bd a b
  refine ⟨_, _, _, (aptA a b).2.2.natAbs, by omega, by omega, rfl, rfl, rfl, ?_⟩
  rw [k2]
  by_cases z : (aptA a b).2.2.natAbs = 0
  · rw [z, Nat.zero_mul] at k3
    have kz : k = 0 := by
      rcases Nat.eq_zero_or_pos k with h | h
      · exact h
      · have := val_lt h
        rw [val_zero, k3] at this
        omega
    rw [z, kz, Nat.zero_mul, Nat.zero_mul, show sqB 1 0 = 0 by kernel_rfl, show sqB 2 0 = 0 by kernel_rfl, show sqB 0 0 = 0 by kernel_rfl]
    exact rts_zero
  · have hn : (aptA a b).2.2.natAbs < 17592186044416 := by
      clear k3
      omega
    exact root_rts hn k1 k3 z
/-- The comparisons of what is told. -/
structure LnF (n lo hi nr : Nat) : Prop where
  gt : (FloatKind.f64.format.order lo hi == some .gt) = false
  one : (FloatKind.f64.format.order nr lo == some .eq) = true ∨ (FloatKind.f64.format.order nr hi == some .eq) = true
  eq : (FloatKind.f64.format.order lo hi == some .eq) = decide (lo = hi)
  nx : lo ≠ hi → nextF lo true = hi
  l64 : lo < 18446744073709551616 ∧ hi < 18446744073709551616 ∧ nr < 18446744073709551616
  fin : finB lo = true ∧ finB hi = true
theorem ln_facts {A lo hi nr n : Nat} (h : Rts A lo hi nr) : LnF n lo hi nr := by
  obtain ⟨f, l, nr', o, _, _⟩ := h
  obtain ⟨f1, p1⟩ := fin_fn (k := lo) (by omega)
  obtain ⟨f2, p2⟩ := fin_fn (k := hi) f
  have hnr : nr < 9218868437227405312 := by rcases o with h | h <;> omega
  obtain ⟨f3, p3⟩ := fin_fn (k := nr) hnr
  refine ⟨?_, ?_, ?_, ?_, ⟨by omega, by omega, by omega⟩, ?_⟩
  · rw [gt_num f1.1 f2.1 f1.2 f2.2, p1, p2]; simp; omega
  · rw [eq_num f3.1 f1.1 f3.2 f1.2, eq_num f3.1 f2.1 f3.2 f2.2, p1, p2, p3]; simp; omega
  · rw [eq_num f1.1 f2.1 f1.2 f2.2, p1, p2]; exact decide_eq_decide.2 (by omega)
  · intro ne
    have e : hi = lo + 1 := by omega
    rw [e]
    unfold nextF
    rw [f1.2, p1]
    simp only [Bool.false_eq_true, if_false, if_true]
    rw [show min ((lo : Int) + 1) 9218868437227405312 = ((lo + 1 : Nat) : Int) by omega, ← at_pos (by omega)]
    omega
  · have r : ∀ k, k < 9218868437227405312 → finB k = true := fun k hk => by unfold finB rung; simp; omega
    exact ⟨r _ (by omega), r _ f⟩
end Go.Proofs.YtlhoidkfphellaaDoor

namespace Go.Proofs.YtlhoidkfphellaaDoor
open Go.RowKit

structure LnD (n xl xh : Nat) (D1 E1 D2 E2 : Dy) (i k : Int) : Prop where
  o1 : ofD xl = (D1, 0)
  o2 : ofD xh = (D2, 0)
  m1 : mulD D1 D1 = (E1, 0)
  m2 : mulD D2 D2 = (E2, 0)
  l1 : Lm D1.mag
  l2 : Lm D2.mag
  l3 : Lm E1.mag
  l4 : Lm E2.mag
  r1 : rightB E1 = true
  r2 : rightB E2 = true
  l5 : Lm (intD n).mag
  r3 : rightB (intD n) = true
  c1 : sgI (qd E1 - qd (intD n)) = i
  c2 : sgI (qd (intD n) - qd E2) = k
  i0 : i ≤ 0
  k0 : k ≤ 0
  i1 : (i == 0) = decide (xl = xh)
  k1 : (k == 0) = decide (xl = xh)
theorem vI_pl {x : Nat} (h : x < 9218868437227405312) : vI x = (val x : Int) := by
  have s : sgn x = false := by unfold sgn; simp; omega
  have r : rung x = x := by unfold rung; omega
  unfold vI; rw [s, r]; rfl
theorem sq_fd {x : Nat} (hx : x < 9218868437227405312) (fx : finB x = true) : ∃ D E, ofD x = (D, 0) ∧ Lm D.mag ∧ mulD D D = (E, 0) ∧ Fd E ((val x * val x : Nat) : Int) := by
  obtain ⟨D, hD, hF⟩ := fd_of fx
  obtain ⟨V, hV, hb⟩ := vI_bd fx
  have hbl : bl (vI x * vI x).natAbs ≤ 16384 := bl_sm (n := V + V) (by
    rw [Int.natAbs_mul, Nat.pow_add]
    exact Nat.mul_lt_mul'' hb hb) (by omega)
  refine ⟨D, dz (vI x * vI x), hD, hF.2.1, fd_mul hF hF hbl, ?_⟩
  have := fd_dz hbl
  rw [vI_pl hx] at this ⊢
  rw [Int.natCast_mul]
  exact this
theorem len_dyads {n xl xh xn : Nat} (hn : n ≤ 8796093022208) (h : Rts (n * 2 ^ twP * 2 ^ twP) xl xh xn) : ∃ D1 E1 D2 E2 i k, LnD n xl xh D1 E1 D2 E2 i k := by
  have hf := h.fin
  have hle := h.le
  have fin : ∀ k, k < 9218868437227405312 → finB k = true := fun k hk => by unfold finB rung; simp; omega
  obtain ⟨D1, E1, a1, a2, a3, a4⟩ := sq_fd (x := xl) (by omega) (fin _ (by omega))
  obtain ⟨D2, E2, b1, b2, b3, b4⟩ := sq_fd (x := xh) hf (fin _ hf)
  have hI := kint_facts (n := (n : Int)) (by omega) (by omega)
  have c1 := fd_cmp a4 hI
  have c2 := fd_cmp hI b4
  have e : ((n : Int)) * 2 ^ twP * 2 ^ twP = ((n * 2 ^ twP * 2 ^ twP : Nat) : Int) := by
    rw [Int.natCast_mul, Int.natCast_mul, Int.natCast_pow]; rfl
  rw [e] at c1 c2
  have hs : xl = xh → val xl * val xl = n * 2 ^ twP * 2 ^ twP ∧ val xh * val xh = n * 2 ^ twP * 2 ^ twP := fun q => ⟨h.same q, by rw [← q]; exact h.same q⟩
  have hl := h.less
  have hz : ∀ z : Int, (sgI z == 0) = decide (z = 0) := fun z => by unfold sgI; (repeat' split) <;> simp <;> omega
  have hn0 : ∀ z : Int, z ≤ 0 → sgI z ≤ 0 := fun z hz => by unfold sgI; (repeat' split) <;> omega
  refine ⟨D1, E1, D2, E2, _, _, a1, b1, a3, b3, a2, b2, a4.2.1, b4.2.1, a4.1, b4.1, hI.2.1, hI.1, rfl, rfl, ?_, ?_, ?_, ?_⟩
  · rw [c1]
    refine hn0 _ ?_
    generalize n * 2 ^ twP * 2 ^ twP = A at *
    by_cases q : xl = xh
    · have := hs q; omega
    · have := hl q; omega
  · rw [c2]
    refine hn0 _ ?_
    generalize n * 2 ^ twP * 2 ^ twP = A at *
    by_cases q : xl = xh
    · have := hs q; omega
    · have := hl q; omega
  · rw [c1, hz]
    generalize n * 2 ^ twP * 2 ^ twP = A at *
    refine decide_eq_decide.2 ?_
    by_cases q : xl = xh
    · have := hs q; omega
    · have := hl q; omega
  · rw [c2, hz]
    generalize n * 2 ^ twP * 2 ^ twP = A at *
    refine decide_eq_decide.2 ?_
    by_cases q : xl = xh
    · have := hs q; omega
    · have := hl q; omega
/-- Three cells of another box are written. -/
abbrev set3 (w : World) (P : Nat) (a b c : Value) : World := ((w.setCell ⟨P, 0, none⟩ a).setCell ⟨P, 1, none⟩ b).setCell ⟨P, 2, none⟩ c
theorem cell_far3 {w : World} {P Q o : Nat} (hq : Q ≠ P) (a b c : Value) : (set3 w P a b c).cell? ⟨Q, o, none⟩ = w.cell? ⟨Q, o, none⟩ := by
  unfold set3
  rw [World.cell?_setCell_other _ _ _ _ (fun e => hq (by have := congrArg Addr.block e; simpa using this.symm)), World.cell?_setCell_other _ _ _ _ (fun e => hq (by have := congrArg Addr.block e; simpa using this.symm)), World.cell?_setCell_other _ _ _ _ (fun e => hq (by have := congrArg Addr.block e; simpa using this.symm))]
theorem hd_far {w : World} {P Q B : Nat} {d : Dy} {o : Option Addr} {c : Nat} (h : Hd w Q d o c) (hq : Q ≠ P) (hf : Frs B o) (hp : P < B) (x y z : Value) : Hd (set3 w P x y z) Q d o c :=
  ⟨(cell_far3 hq x y z).trans h.c0, (cell_far3 hq x y z).trans h.c1, (cell_far3 hq x y z).trans h.c2, ((h.row.box hf hp _ _).box hf hp _ _).box hf hp _ _⟩
theorem fzr_set {w : World} {P Q : Nat} (h : Fzr w Q) (a b c : Value) : Fzr (set3 w P a b c) Q := by
  obtain ⟨f0, f1, f2⟩ := h
  refine ⟨?_, ?_, ?_⟩ <;> simp [go_sem, f0, f1, f2]
theorem bx_far {w : World} {P Q : Nat} {x y : Value} (h : Bx w Q x y) (hq : Q ≠ P) (a b c : Value) : Bx (set3 w P a b c) Q x y := by
  obtain ⟨h1, h2, h3, h4, h5⟩ := h
  refine ⟨(cell_far3 hq a b c).trans h1, (cell_far3 hq a b c).trans h2, ?_, ?_, ?_⟩
  · simp [go_sem, h3]
  · simp [go_sem, h4]
  · simpa [go_sem] using h5
theorem below_set3 {B : Nat} {w w' : World} (h : Below B w w') {P : Nat} (hP : B ≤ P) (a b c : Value) : Below B w (set3 w' P a b c) :=
  ((h.setCell (p := ⟨P, 0, none⟩) hP _).setCell (p := ⟨P, 1, none⟩) hP _).setCell (p := ⟨P, 2, none⟩) hP _
end Go.Proofs.YtlhoidkfphellaaDoor

namespace Go.Proofs.YtlhoidkfphellaaDoor
open Go.RowKit

def In20 (x : Int) : Prop := -1048576 ≤ x ∧ x ≤ 1048576
abbrev noN : ByteArray := ⟨#[]⟩
def hfJ (j : Jn) : Jn := (noN, j.2.1.tdiv 2, j.2.2.1.tdiv 2, 0)
def mvJ (j b : Jn) : Jn := (⟨#[113]⟩, j.2.1.tdiv 2 + b.2.1.tdiv 2, j.2.2.1.tdiv 2 + b.2.2.1.tdiv 2, 3)
def tnJ : Nat → Jn → Jn
  | 0, j => (noN, -j.2.1, j.2.2.1, 0)
  | 1, j => (noN, j.2.2.1, j.2.1, 0)
  | 2, j => (noN, -j.2.2.1, j.2.1, 0)
  | _, j => (noN, -j.2.1, -j.2.2.1, 0)
theorem khalf_bd {x : Int} (h : In20 x) : -524288 ≤ x.tdiv 2 ∧ x.tdiv 2 ≤ 524288 := by
  unfold In20 at h
  have := Int.mul_tdiv_add_tmod x 2
  have h1 := Int.tmod_lt_of_pos x (show (0 : Int) < 2 by omega)
  have h2 : -2 < x.tmod 2 := by
    have := Int.tmod_lt_of_pos (-x) (show (0 : Int) < 2 by omega)
    rw [Int.neg_tmod] at this
    omega
  omega
set_option maxHeartbeats 1000000 in
theorem half_any (s : ByteArray) (x y : Int) (f : Nat) (hx : In20 x) (hy : In20 y) (w : World) :
    Calls Tryd.prog 22 #[.agg #[.string s, .int .i32 x, .int .i32 y, .int .u8 f]] w fun e w' => e = .returned (.agg #[.string noN, .int .i32 (x.tdiv 2), .int .i32 (y.tdiv 2), .int .u8 0]) ∧ Below w.heap.size w w' := by
  have b1 := khalf_bd hx
  have b2 := khalf_bd hy
  unfold In20 at hx hy
  have n1 : ¬ ((2 : Int) = 0) := by decide
  have n2 : ¬ ((2 : Int) = -1) := by decide
  go_enter Tryd.func22, Tryd.ntmps22
  go_wp2
  exact bodyPost_ret (v := .agg #[.string noN, .int .i32 (x.tdiv 2), .int .i32 (y.tdiv 2), .int .u8 0]) (by simp [results, Tryd.results22, go_sem]) rfl ⟨rfl, ((Below.refl _ _).alloc (Nat.le_refl _) _).alloc (by simp) _⟩
set_option maxHeartbeats 1000000 in
theorem turn3_any (s : ByteArray) (x y : Int) (f : Nat) (hx : In20 x) (_hy : In20 y) (w : World) :
    Calls Tryd.prog 24 #[.agg #[.string s, .int .i32 x, .int .i32 y, .int .u8 f]] w fun e w' => e = .returned (.agg #[.string noN, .int .i32 (-x), .int .i32 (y), .int .u8 0]) ∧ Below w.heap.size w w' := by
  unfold In20 at hx
  go_enter Tryd.func24, Tryd.ntmps24
  go_wp2
  exact bodyPost_ret (v := .agg #[.string noN, .int .i32 (-x), .int .i32 (y), .int .u8 0]) (by simp [results, Tryd.results24, go_sem]) rfl ⟨rfl, ((Below.refl _ _).alloc (Nat.le_refl _) _).alloc (by simp) _⟩
set_option maxHeartbeats 1000000 in
theorem turn4_any (s : ByteArray) (x y : Int) (f : Nat) (_hx : In20 x) (_hy : In20 y) (w : World) :
    Calls Tryd.prog 25 #[.agg #[.string s, .int .i32 x, .int .i32 y, .int .u8 f]] w fun e w' => e = .returned (.agg #[.string noN, .int .i32 (y), .int .i32 (x), .int .u8 0]) ∧ Below w.heap.size w w' := by
  go_enter Tryd.func25, Tryd.ntmps25
  go_wp2
  exact bodyPost_ret (v := .agg #[.string noN, .int .i32 (y), .int .i32 (x), .int .u8 0]) (by simp [results, Tryd.results25, go_sem]) rfl ⟨rfl, ((Below.refl _ _).alloc (Nat.le_refl _) _).alloc (by simp) _⟩
set_option maxHeartbeats 1000000 in
theorem turn5_any (s : ByteArray) (x y : Int) (f : Nat) (_hx : In20 x) (hy : In20 y) (w : World) :
    Calls Tryd.prog 26 #[.agg #[.string s, .int .i32 x, .int .i32 y, .int .u8 f]] w fun e w' => e = .returned (.agg #[.string noN, .int .i32 (-y), .int .i32 (x), .int .u8 0]) ∧ Below w.heap.size w w' := by
  unfold In20 at hy
  go_enter Tryd.func26, Tryd.ntmps26
  go_wp2
  exact bodyPost_ret (v := .agg #[.string noN, .int .i32 (-y), .int .i32 (x), .int .u8 0]) (by simp [results, Tryd.results26, go_sem]) rfl ⟨rfl, ((Below.refl _ _).alloc (Nat.le_refl _) _).alloc (by simp) _⟩
set_option maxHeartbeats 1000000 in
theorem turn6_any (s : ByteArray) (x y : Int) (f : Nat) (hx : In20 x) (hy : In20 y) (w : World) :
    Calls Tryd.prog 27 #[.agg #[.string s, .int .i32 x, .int .i32 y, .int .u8 f]] w fun e w' => e = .returned (.agg #[.string noN, .int .i32 (-x), .int .i32 (-y), .int .u8 0]) ∧ Below w.heap.size w w' := by
  unfold In20 at hx hy
  go_enter Tryd.func27, Tryd.ntmps27
  go_wp2
  exact bodyPost_ret (v := .agg #[.string noN, .int .i32 (-x), .int .i32 (-y), .int .u8 0]) (by simp [results, Tryd.results27, go_sem]) rfl ⟨rfl, ((Below.refl _ _).alloc (Nat.le_refl _) _).alloc (by simp) _⟩
set_option maxHeartbeats 2000000 in
theorem move_any (s : ByteArray) (x y : Int) (f : Nat) (hx : In20 x) (hy : In20 y) (t : ByteArray) (p q : Int) (g : Nat) (hp : In20 p) (hq : In20 q) (C : Nat) (w : World) (hC : w.cell? ⟨C, 0, none⟩ = some (.func (.func 22) #[] #[])) :
    Calls Tryd.prog 23 #[.agg #[.string s, .int .i32 x, .int .i32 y, .int .u8 f], .agg #[.string t, .int .i32 p, .int .i32 q, .int .u8 g], .pointer (some ⟨C, 0, none⟩)] w fun e w' => e = .returned (.agg #[.string ⟨#[113]⟩, .int .i32 (x.tdiv 2 + p.tdiv 2), .int .i32 (y.tdiv 2 + q.tdiv 2), .int .u8 3]) ∧ Below w.heap.size w w' := by
  have b1 := khalf_bd hx
  have b2 := khalf_bd hy
  have b3 := khalf_bd hp
  have b4 := khalf_bd hq
  have ch := fun w' => half_any s x y f hx hy w'
  unfold In20 at hx hy hp hq
  have X0 := ((JBox.new w (.string s) (.int .i32 x) (.int .i32 y) (.int .u8 f) 33).alloc (.cells #[.string t, .int .i32 p, .int .i32 q, .int .u8 g] 33)).alloc (.cells #[.string noN, .int .i32 0, .int .i32 0, .int .u8 0] 33)
  have X1 := (JBox.new (w.alloc (.cells #[.string s, .int .i32 x, .int .i32 y, .int .u8 f] 33)) (.string t) (.int .i32 p) (.int .i32 q) (.int .u8 g) 33).alloc (.cells #[.string noN, .int .i32 0, .int .i32 0, .int .u8 0] 33)
  have X2 := JBox.new ((w.alloc (.cells #[.string s, .int .i32 x, .int .i32 y, .int .u8 f] 33)).alloc (.cells #[.string t, .int .i32 p, .int .i32 q, .int .u8 g] 33)) (.string noN) (.int .i32 0) (.int .i32 0) (.int .u8 0) 33
  have hs1 : (w.alloc (.cells #[.string s, .int .i32 x, .int .i32 y, .int .u8 f] 33)).heap.size = w.heap.size + 1 := by simp
  have hs2 : ((w.alloc (.cells #[.string s, .int .i32 x, .int .i32 y, .int .u8 f] 33)).alloc (.cells #[.string t, .int .i32 p, .int .i32 q, .int .u8 g] 33)).heap.size = w.heap.size + 1 + 1 := by simp
  rw [hs1] at X1
  rw [hs2] at X2
  have hb0 : Below w.heap.size w (((w.alloc (.cells #[.string s, .int .i32 x, .int .i32 y, .int .u8 f] 33)).alloc (.cells #[.string t, .int .i32 p, .int .i32 q, .int .u8 g] 33)).alloc (.cells #[.string noN, .int .i32 0, .int .i32 0, .int .u8 0] 33)) := (((Below.refl _ _).alloc (Nat.le_refl _) _).alloc (by simp) _).alloc (by simp; omega) _
  have hC0 := (hb0.cell (World.block_lt_of_cell? w _ hC)).trans hC
  clear hs1 hs2 hC
  go_enter Tryd.func23, Tryd.ntmps23
  go_upto_region 1 with fail
  generalize ((w.alloc (.cells #[.string s, .int .i32 x, .int .i32 y, .int .u8 f] 33)).alloc (.cells #[.string t, .int .i32 p, .int .i32 q, .int .u8 g] 33)).alloc (.cells #[.string noN, .int .i32 0, .int .i32 0, .int .u8 0] 33) = W0 at *
  obtain ⟨x0, x1, x2, x3, _, _, _, _, _⟩ := id X0
  go_upto_region 2 with (go_at_call 22; refine (ch _).mono ?_; rintro e w1 ⟨rfl, d1⟩)
  have hb1 := hb0.trans (d1.mono hb0.size)
  replace hb1 := hb1.alloc hb1.size (.cells #[.string noN, .int .i32 (x.tdiv 2), .int .i32 (y.tdiv 2), .int .u8 0] 33)
  have K1 := JBox.new w1 (.string noN) (.int .i32 (x.tdiv 2)) (.int .i32 (y.tdiv 2)) (.int .u8 0) 33
  have Y1 := (X1.below d1).alloc (.cells #[.string noN, .int .i32 (x.tdiv 2), .int .i32 (y.tdiv 2), .int .u8 0] 33)
  have Y2 := (X2.below d1).alloc (.cells #[.string noN, .int .i32 (x.tdiv 2), .int .i32 (y.tdiv 2), .int .u8 0] 33)
  have lt := (X2.below d1).lt
  generalize w1.alloc (.cells #[.string noN, .int .i32 (x.tdiv 2), .int .i32 (y.tdiv 2), .int .u8 0] 33) = W1 at *
  generalize w1.heap.size = G at *
  have hz : w.heap.size ≤ w.heap.size + 1 + 1 := by omega
  generalize w.heap.size + 1 + 1 = R at *
  obtain ⟨k0, k1, k2, k3, _, _, _, _, _⟩ := id K1
  obtain ⟨y0, y1, y2, y3, _, _, _, _, _⟩ := id Y1
  obtain ⟨z0, z1, z2, z3, f0, f1, f2, f3, _⟩ := id Y2
  clear x0 x1 x2 x3 X0 X1 X2 d1 hb0 hC0 ch
  go_wp2
  exact bodyPost_ret (v := .agg #[.string ⟨#[113]⟩, .int .i32 (x.tdiv 2 + p.tdiv 2), .int .i32 (y.tdiv 2 + q.tdiv 2), .int .u8 3]) (by simp [results, Tryd.results23, go_sem, z0, z1, z2, z3]) rfl ⟨rfl, (((hb1.setCell (p := ⟨R, 0, none⟩) hz _).setCell (p := ⟨R, 1, none⟩) hz _).setCell (p := ⟨R, 2, none⟩) hz _).setCell (p := ⟨R, 3, none⟩) hz _⟩
end Go.Proofs.YtlhoidkfphellaaDoor

namespace Go.Proofs.YtlhoidkfphellaaDoor
open Go.RowKit

/-- Does the exact number of X units of 2^-2148 lie between the ends? -/
def HoX (p : Nat × Nat) (X : Int) : Prop := (finB p.1 = true → vI p.1 * 2 ^ twP ≤ X) ∧ (finB p.2 = true → X ≤ vI p.2 * 2 ^ twP)
theorem vW5 (s : Bool) {q : Nat} (h : q ≤ 9218868437227405312) : vI (Ieee.double.word s q) = (if s then -(val q : Int) else (val q : Int)) ∧ finB (Ieee.double.word s q) = decide (q < 9218868437227405312) := by
  have hw := word_rung s (show q < 9223372036854775808 by omega)
  unfold vI finB
  rw [hw.1, hw.2]
  exact ⟨rfl, rfl⟩
theorem brk_dn {A k : Nat} {r : Int} {G : Nat → Nat} (h : Brk A G k r) : G (rgS k r 1) ≤ A ∧ rgS k r 1 ≤ 9218868437227405312 := by
  obtain ⟨hk, h0, h1, h2⟩ := h
  unfold rgS
  rcases Int.lt_trichotomy r 0 with g | g | g
  · rw [if_pos ⟨Or.inl rfl, g⟩]; exact ⟨Nat.le_of_lt (h2 g).2.1, by omega⟩
  · rw [if_neg (by omega), if_neg (by omega)]; exact ⟨Nat.le_of_eq (h0 g).2, hk⟩
  · rw [if_neg (by omega), if_neg (by omega)]; exact ⟨Nat.le_of_lt (h1 g).2.1, hk⟩
theorem brk_up {A k : Nat} {r : Int} {G : Nat → Nat} (h : Brk A G k r) : (rgS k r 2 < 9218868437227405312 → A ≤ G (rgS k r 2)) ∧ rgS k r 2 ≤ 9218868437227405312 := by
  obtain ⟨hk, h0, h1, h2⟩ := h
  unfold rgS
  rcases Int.lt_trichotomy r 0 with g | g | g
  · rw [if_neg (by omega), if_neg (by omega)]; exact ⟨fun q => Nat.le_of_lt ((h2 g).2.2 q), hk⟩
  · rw [if_neg (by omega), if_neg (by omega)]; exact ⟨fun _ => Nat.le_of_eq (h0 g).2.symm, hk⟩
  · rw [if_neg (by omega), if_pos ⟨rfl, g⟩]; exact ⟨fun q => Nat.le_of_lt ((h1 g).2.2 q), by have := (h1 g).1; omega⟩
/-- What is told downwards is not above the exact number, upwards not below it: by sizes. -/
theorem told_val {s : Bool} {A : Nat} {G : Nat → Nat} {f : Int → Nat} (h : Told s A G f) :
    (s = false → (vI (f 1) = (val (rung (f 1)) : Int) ∧ sgn (f 1) = false ∧ G (rung (f 1)) ≤ A) ∧ (vI (f 2) = (val (rung (f 2)) : Int) ∧ sgn (f 2) = false ∧ (finB (f 2) = true → A ≤ G (rung (f 2))))) ∧
    (s = true → (vI (f 1) = -(val (rung (f 1)) : Int) ∧ sgn (f 1) = true ∧ (finB (f 1) = true → A ≤ G (rung (f 1)))) ∧ (vI (f 2) = -(val (rung (f 2)) : Int) ∧ sgn (f 2) = true ∧ G (rung (f 2)) ≤ A)) := by
  obtain ⟨k, r, hB, hf⟩ := h
  obtain ⟨d1, d2⟩ := brk_dn hB
  obtain ⟨u1, u2⟩ := brk_up hB
  have t1 : tmd 1 = 2 := rfl
  have t2 : tmd 2 = 1 := rfl
  have wr := fun (s : Bool) (q : Nat) (hq : q ≤ 9218868437227405312) => word_rung s (show q < 9223372036854775808 by omega)
  constructor
  · rintro rfl
    have e1 : f 1 = Ieee.double.word false (rgS k r 1) := hf 1
    have e2 : f 2 = Ieee.double.word false (rgS k r 2) := hf 2
    rw [e1, e2, (wr false _ d2).1, (wr false _ u2).1]
    exact ⟨⟨(vW5 false d2).1, (wr false _ d2).2, d1⟩, (vW5 false u2).1, (wr false _ u2).2, fun q => u1 (by rw [(vW5 false u2).2] at q; simpa using q)⟩
  · rintro rfl
    have e1 : f 1 = Ieee.double.word true (rgS k r 2) := hf 1
    have e2 : f 2 = Ieee.double.word true (rgS k r 1) := hf 2
    rw [e1, e2, (wr true _ d2).1, (wr true _ u2).1]
    exact ⟨⟨(vW5 true u2).1, (wr true _ u2).2, fun q => u1 (by rw [(vW5 true u2).2] at q; simpa using q)⟩, (vW5 true d2).1, (wr true _ d2).2, d1⟩
theorem pwp5 : (0 : Int) < 2 ^ twP := by
  have h := Nat.two_pow_pos twP
  generalize twP = t at *
  have e : ((2 ^ t : Nat) : Int) = (2 : Int) ^ t := (by simp)
  rw [← e]
  omega
theorem pwc5 : ((2 ^ twP : Nat) : Int) = (2 : Int) ^ twP := by
  generalize twP = t
  simp
theorem fu_exact {X : Int} (h0 : X ≠ 0) : HoX (fuV X 1, fuV X 2) X := by
  obtain ⟨hf, ht⟩ := told_val (fu_told h0)
  have pc := pwc5
  unfold HoX
  simp only
  rw [← pc]
  generalize (2 : Nat) ^ twP = c at *
  rcases Int.lt_or_le X 0 with g | g
  · obtain ⟨⟨v1, _, a1⟩, v2, _, a2⟩ := ht (by simpa using g)
    rw [v1, v2]
    have e1 : -(val (rung (fuV X 1)) : Int) * (c : Int) = -((val (rung (fuV X 1)) * c : Nat) : Int) := by rw [Int.neg_mul]; simp
    have e2 : -(val (rung (fuV X 2)) : Int) * (c : Int) = -((val (rung (fuV X 2)) * c : Nat) : Int) := by rw [Int.neg_mul]; simp
    rw [e1, e2]
    exact ⟨fun q => by have k : X.natAbs ≤ val (rung (fuV X 1)) * c := a1 q; omega, fun _ => by have k : val (rung (fuV X 2)) * c ≤ X.natAbs := a2; omega⟩
  · obtain ⟨⟨v1, _, a1⟩, v2, _, a2⟩ := hf (by simpa using g)
    rw [v1, v2]
    have e1 : (val (rung (fuV X 1)) : Int) * (c : Int) = ((val (rung (fuV X 1)) * c : Nat) : Int) := by simp
    have e2 : (val (rung (fuV X 2)) : Int) * (c : Int) = ((val (rung (fuV X 2)) * c : Nat) : Int) := by simp
    rw [e1, e2]
    exact ⟨fun _ => by have k : val (rung (fuV X 1)) * c ≤ X.natAbs := a1; omega, fun q => by have k : X.natAbs ≤ val (rung (fuV X 2)) * c := a2 q; omega⟩
theorem vIn5 {v : Nat} (h : place v = 0) : vI v = 0 := by
  have r : rung v = 0 := by unfold place at h; split at h <;> omega
  unfold vI
  rw [r, val_zero]
  split <;> rfl
theorem ho_zero {p : Nat × Nat} (h1 : place p.1 = 0) (h2 : place p.2 = 0) : HoX p 0 := by
  unfold HoX
  rw [vIn5 h1, vIn5 h2]
  simp
theorem add_exact {x y : Nat} (hx : Fn x) (hy : Fn y) (fx : finB x = true) (fy : finB y = true) : HoX (addB 1 x y, addB 2 x y) ((vI x + vI y) * 2 ^ twP) := by
  have e : ∀ m, addB m x y = addV x y m := fun m => by unfold addB; rw [fx, fy]; rfl
  rw [e, e]
  by_cases h0 : vI x + vI y = 0
  · obtain ⟨e1, g⟩ := add_nought 1 hx.1 hy.1 fx fy h0
    obtain ⟨e2, _⟩ := add_nought 2 hx.1 hy.1 fx fy h0
    rw [e1, e2, h0, Int.zero_mul]
    exact ho_zero (nought_place (noughtF_is 1 hx.1 g)) (nought_place (noughtF_is 2 hx.1 g))
  · rw [add_fu 1 hx.1 hy.1 fx fy h0, add_fu 2 hx.1 hy.1 fx fy h0]
    exact fu_exact (Int.mul_ne_zero h0 (by have := pwp5; omega))
theorem mul_exact {x y : Nat} (hx : Fn x) (hy : Fn y) (fx : finB x = true) (fy : finB y = true) : HoX (tB 1 x y, tB 2 x y) (vI x * vI y) := by
  have e : ∀ m, tB m x y = mulB m x y := fun m => by unfold tB; rw [fx, fy]; simp
  rw [e, e]
  cases s : (someB x && someB y)
  · have o := mulS_ok hx.1 hy.1 hx.2 hy.2 (by rw [fx, fy]; simp)
    obtain ⟨v, hv⟩ := Option.isSome_iff_exists.1 o
    have g : ∀ m, mulB m x y = v := fun m => by unfold mulB; rw [s, hv]; rfl
    have z := mul_zero_place hx hy fx fy s hv
    have z2 : vI x * vI y = 0 := by
      have zz : rung x = 0 ∨ rung y = 0 := by
        unfold someB at s
        rw [fx, fy] at s
        simp at s
        omega
      rcases zz with q | q
      · rw [vIn5 (zero_place q), Int.zero_mul]
      · rw [vIn5 (zero_place q), Int.mul_zero]
    rw [g, g, z2]
    exact ho_zero z z
  · have sx : someB x = true := by revert s; cases someB x <;> simp
    have sy : someB y = true := by revert s; cases someB x <;> simp
    have g : ∀ m, mulB m x y = fuV (vI x * vI y) m := fun m => by unfold mulB; rw [s]; exact mul_fu m hx.1 hy.1 sx sy
    rw [g, g]
    have rx := (vI_sign (show rung x ≠ 0 by simpa using (some_rung sx).2)).1
    have ry := (vI_sign (show rung y ≠ 0 by simpa using (some_rung sy).2)).1
    exact fu_exact (Int.mul_ne_zero rx ry)
theorem fin_mid {x : Nat} (h : Fn x) (p1 : place x ≤ 9218868437227405311) (p2 : -9218868437227405311 ≤ place x) : finB x = true := by
  cases f : finB x
  · have := (lo_inf h p1 f).2; omega
  · rfl
/-- What lies between lesser ends lies between wider ones. -/
theorem ho_wider {p q : Nat × Nat} {X : Int} (hq : RtP q) (w : Wt q p) (h : HoX q X) : HoX p X := by
  obtain ⟨w1, w2⟩ := w
  obtain ⟨q1, q2, q3⟩ := hq.pl
  have c := Int.le_of_lt pwp5
  constructor
  · intro f
    have pf := pl_fin f
    have fq := fin_mid hq.fn.1 q2 (by omega)
    exact Int.le_trans (Int.mul_le_mul_of_nonneg_right (vI_le_of w1) c) (h.1 fq)
  · intro f
    have pf := pl_fin f
    have fq := fin_mid hq.fn.2 (by omega) q3
    exact Int.le_trans (h.2 fq) (Int.mul_le_mul_of_nonneg_right (vI_le_of w2) c)
/-- A number of a span. -/
def Of1 (x : Nat) (a : Nat × Nat) : Prop := Fn x ∧ finB x = true ∧ place a.1 ≤ place x ∧ place x ≤ place a.2
theorem Of1.rt {x : Nat} {a : Nat × Nat} (h : Of1 x a) : RtP (x, x) := by
  have p := pl_fin h.2.1
  exact RtP.mk h.1 h.1 (Int.le_refl _) (by simp only; omega) (by simp only; omega)
theorem Of1.wt {x : Nat} {a : Nat × Nat} (h : Of1 x a) : Wt (x, x) a := ⟨h.2.2.1, h.2.2.2⟩
theorem lsF_me (a : Nat) : lsF a a = a := by unfold lsF; split <;> rfl
theorem grF_me (a : Nat) : grF a a = a := by unfold grF; split <;> rfl
theorem muP_one (x y : Nat) : muP (x, x) (y, y) = (tB 1 x y, tB 2 x y) := by unfold muP lsC grC; simp only [lsF_me, grF_me]
theorem diP_one (x y : Nat) : diP (x, x) (y, y) = (oB 1 x y, oB 2 x y) := by unfold diP lsC grC; simp only [lsF_me, grF_me]
theorem hold_add {a b : Nat × Nat} {x y : Nat} (ha : RtP a) (hb : RtP b) (hx : Of1 x a) (hy : Of1 y b) : HoX (adP a b) ((vI x + vI y) * 2 ^ twP) :=
  ho_wider (adP_rt hx.rt hy.rt) (adP_wt hx.rt hy.rt ha hb hx.wt hy.wt) (add_exact hx.1 hy.1 hx.2.1 hy.2.1)
theorem vNg5 {y : Nat} (hy : y < 18446744073709551616) : vI (negW y) = -vI y := by
  obtain ⟨_, _, _, r, s⟩ := neg_back hy
  unfold vI
  rw [r, s]
  cases sgn y <;> simp
theorem hold_sub {a b : Nat × Nat} {x y : Nat} (ha : RtP a) (hb : RtP b) (hx : Of1 x a) (hy : Of1 y b) : HoX (adP a (ngP b)) ((vI x - vI y) * 2 ^ twP) := by
  have e := (neg_back hy.1.1).2.2.1
  have e1 := (neg_back hb.1).2.2.1
  have e2 := (neg_back hb.2.1).2.2.1
  obtain ⟨y1, y2, y3, y4⟩ := hy
  have hn : Of1 (negW y) (ngP b) := ⟨neg_Fn y1, by rw [fin_neg y1.1]; exact y2, by simp only [ngP]; omega, by simp only [ngP]; omega⟩
  have := hold_add ha (ngP_rt hb) hx hn
  rw [vNg5 y1.1] at this
  exact this
theorem hold_mul {a b : Nat × Nat} {x y : Nat} (ha : RtP a) (hb : RtP b) (hx : Of1 x a) (hy : Of1 y b) : HoX (muP a b) (vI x * vI y) := by
  have h := mul_exact hx.1 hy.1 hx.2.1 hy.2.1
  rw [← muP_one] at h
  exact ho_wider (muP_rt hx.rt hy.rt) (muP_wt hx.rt hy.rt ha hb hx.wt hy.wt) h
/-- A number's size. -/
theorem size_one {x : Nat} (hx : Fn x) (fx : finB x = true) : ∃ s, abP (x, x) = (s, s) ∧ Fn s ∧ finB s = true ∧ (vI s = vI x ∨ vI s = -vI x) ∧ (place s = place x ∨ place s = -place x) ∧ 0 ≤ place s := by
  unfold abP
  split
  · rename_i q; simp only at q; exact ⟨x, rfl, hx, fx, Or.inl rfl, Or.inl rfl, by omega⟩
  · split
    · rename_i q
      simp only at q
      have e := (neg_back hx.1).2.2.1
      exact ⟨negW x, rfl, neg_Fn hx, by rw [fin_neg hx.1]; exact fx, Or.inr (vNg5 hx.1), Or.inr e, by omega⟩
    · rename_i q1 q2
      simp only at q1 q2
      have p0 : place x = 0 := by omega
      have r : rung x = 0 := by unfold place at p0; split at p0 <;> omega
      refine ⟨0, ?_, ⟨by omega, rfl⟩, rfl, Or.inl ?_, Or.inl p0.symm, Int.le_refl _⟩
      · simp only [r, grF_me]
      · rw [vIn5 p0]; exact vIn5 rfl
theorem hold_square {a : Nat × Nat} {x : Nat} (ha : RtP a) (hx : Of1 x a) : HoX (squP a) (vI x * vI x) := by
  obtain ⟨s, e, fs, ns, v, _, _⟩ := size_one hx.1 hx.2.1
  have h := mul_exact fs fs ns ns
  have e2 : squP (x, x) = (tB 1 s s, tB 2 s s) := by unfold squP; rw [e]; simp only [(mulB_self _ fs).1]
  rw [← e2] at h
  have e3 : vI s * vI s = vI x * vI x := by rcases v with v | v <;> rw [v] <;> simp [Int.neg_mul_neg]
  rw [e3] at h
  exact ho_wider (squP_rt hx.rt) (squP_wt hx.rt ha hx.wt) h
/-- The size is one of Abs'. -/
theorem has_abs {a : Nat × Nat} {x z : Nat} (ha : RtP a) (hx : Of1 x a) (pz : (0 ≤ place x ∧ place z = place x) ∨ (place x ≤ 0 ∧ place z = -place x)) : place (abP a).1 ≤ place z ∧ place z ≤ place (abP a).2 := by
  obtain ⟨s, e, _, _, _, ps, p0⟩ := size_one hx.1 hx.2.1
  have w := abP_wt hx.rt ha hx.wt
  rw [e] at w
  obtain ⟨w1, w2⟩ := w
  simp only at w1 w2
  omega
end Go.Proofs.YtlhoidkfphellaaDoor

namespace Go.Proofs.YtlhoidkfphellaaDoor
open Go.RowKit

theorem ksq_mono {a b : Int} (hb : 0 ≤ b) (h : a * a ≤ b * b) : a ≤ b := by
  rcases Int.lt_or_le b a with q | q
  · exfalso
    have h1 : b * b < a * a := by
      have h2 : b * b ≤ b * a := Int.mul_le_mul_of_nonneg_left (by omega) hb
      have h3 : b * a < a * a := Int.mul_lt_mul_of_pos_right q (by omega)
      omega
    omega
  · exact q
theorem tri_int {x1 y1 x2 y2 C u p q : Int} (hC : 0 ≤ C) (hp : 0 ≤ p) (hq : 0 ≤ q) (h1 : u * u ≤ ((x1 + x2) * (x1 + x2) + (y1 + y2) * (y1 + y2)) * C) (h2 : (x1 * x1 + y1 * y1) * C ≤ p * p) (h3 : (x2 * x2 + y2 * y2) * C ≤ q * q) : u ≤ p + q := by
  refine ksq_mono (by omega) ?_
  have hD : (x1 * x2 + y1 * y2) * C ≤ p * q := by
    refine ksq_mono (Int.mul_nonneg hp hq) ?_
    have c1 : ((x1 * x2 + y1 * y2) * C) * ((x1 * x2 + y1 * y2) * C) + ((x1 * y2 - x2 * y1) * C) * ((x1 * y2 - x2 * y1) * C) = ((x1 * x1 + y1 * y1) * C) * ((x2 * x2 + y2 * y2) * C) := by grind
    have c2 : 0 ≤ ((x1 * y2 - x2 * y1) * C) * ((x1 * y2 - x2 * y1) * C) := by
      rw [← Int.natAbs_mul_self]
      omega
    have n1 : 0 ≤ (x1 * x1 + y1 * y1) * C := Int.mul_nonneg (by rw [← Int.natAbs_mul_self, ← Int.natAbs_mul_self]; omega) hC
    have n2 : 0 ≤ (x2 * x2 + y2 * y2) * C := Int.mul_nonneg (by rw [← Int.natAbs_mul_self, ← Int.natAbs_mul_self]; omega) hC
    have c3 : ((x1 * x1 + y1 * y1) * C) * ((x2 * x2 + y2 * y2) * C) ≤ (p * p) * (q * q) := Int.mul_le_mul h2 h3 n2 (Int.mul_nonneg hp hp)
    have c4 : (p * p) * (q * q) = (p * q) * (p * q) := by grind
    omega
  have e1 : ((x1 + x2) * (x1 + x2) + (y1 + y2) * (y1 + y2)) * C = (x1 * x1 + y1 * y1) * C + (x2 * x2 + y2 * y2) * C + 2 * ((x1 * x2 + y1 * y2) * C) := by grind
  have e2 : (p + q) * (p + q) = p * p + q * q + 2 * (p * q) := by grind
  omega
/-- The upper end added by Up is not below. -/
theorem tri_float {lo h1 h2 : Nat} (l0 : lo < 9218868437227405312) (l1 : h1 < 9218868437227405312) (l2 : h2 < 9218868437227405312) (h : val lo ≤ val h1 + val h2) :
    Fn (addB 2 h1 h2) ∧ place lo ≤ place (addB 2 h1 h2) := by
  obtain ⟨r1, _⟩ := fin_rt l1
  obtain ⟨r2, _⟩ := fin_rt l2
  have rt := adP_rt r1 r2
  have fin : ∀ k, k < 9218868437227405312 → finB k = true := fun k hk => by unfold finB rung; simp; omega
  have ex := (add_exact r1.fn.1 r2.fn.1 (fin _ l1) (fin _ l2)).2
  have fz : Fn (addB 2 h1 h2) := rt.fn.2
  refine ⟨fz, ?_⟩
  have pl : place lo = (lo : Int) := (fin_fn l0).2
  cases q : finB (addB 2 h1 h2)
  · have sd := (lo_side rt).2
    simp only [adP] at sd
    rw [q] at sd
    have sg : sgn (addB 2 h1 h2) = false := by rcases sd with h | h; · cases h
                                               · exact h
    have rg : 9218868437227405312 ≤ rung (addB 2 h1 h2) := by
      unfold finB at q
      simpa using q
    unfold place at pl ⊢
    rw [sg]
    simp only [Bool.false_eq_true, if_false]
    rw [(show sgn lo = false by unfold sgn; simp; omega)] at pl ⊢
    simp only [Bool.false_eq_true, if_false] at pl ⊢
    have : rung lo = lo := by unfold rung; omega
    omega
  · have hx := ex q
    rw [vI_pl l1, vI_pl l2] at hx
    have hv : (val h1 : Int) + (val h2 : Int) ≤ vI (addB 2 h1 h2) := by
      have hc : (0 : Int) < 2 ^ twP := pwp5
      exact Int.le_of_mul_le_mul_right hx hc
    rw [pl]
    clear hx ex rt r1 r2
    generalize addB 2 h1 h2 = z at *
    unfold vI at hv
    unfold place
    cases s : sgn z
    · rw [s] at hv
      simp only [Bool.false_eq_true, if_false] at hv ⊢
      rcases Nat.lt_or_ge (rung z) lo with c | c
      · have := val_lt c
        omega
      · omega
    · rw [s] at hv
      simp only [if_true] at hv ⊢
      have z1 : val (rung z) = 0 := by omega
      have z2 : val lo = 0 := by omega
      have z3 : lo = 0 := by
        rcases Nat.eq_zero_or_pos lo with c | c
        · exact c
        · have := val_lt c; omega
      have z4 : rung z = 0 := by
        rcases Nat.eq_zero_or_pos (rung z) with c | c
        · exact c
        · have := val_lt c; omega
      omega
end Go.Proofs.YtlhoidkfphellaaDoor

namespace Go.Proofs.YtlhoidkfphellaaDoor
open Go.RowKit

theorem Tryd.undF : Tryd.prog.underlying 38 = some (.float .f64) := by kernel_rfl
theorem self_eq {k : Nat} (h : k < 9218868437227405312) : (FloatKind.f64.format.order k k == some .eq) = true := by
  obtain ⟨f, _⟩ := fin_fn h
  rw [eq_num f.1 f.1 f.2 f.2]
  simp
theorem eqf_run {k : Nat} (h : k < 9218868437227405312) (w : World) : (Op.equalIn 9999 38 (.float .f64 k) (.float .f64 k)).run Tryd.prog w = .ok true w := by
  have h1 : Op.floatEq .f64 k k = true := self_eq h
  show (Op.equalIn (9998 + 1) 38 (.float .f64 k) (.float .f64 k)).run Tryd.prog w = .ok true w
  unfold Op.equalIn
  simp [run_underlying Tryd.undF, h1]
theorem eq3_run {A lo hi nr : Nat} (h : Rts A lo hi nr) : (∀ w, (Op.equalIn 9999 38 (.float .f64 lo) (.float .f64 lo)).run Tryd.prog w = .ok true w) ∧ (∀ w, (Op.equalIn 9999 38 (.float .f64 hi) (.float .f64 hi)).run Tryd.prog w = .ok true w) ∧ (FloatKind.f64.format.order nr nr == some .eq) = true := by
  obtain ⟨f, l, nr', o, _, _⟩ := h
  have hnr : nr < 9218868437227405312 := by rcases o with h | h <;> omega
  exact ⟨eqf_run (by omega), eqf_run f, self_eq hnr⟩
theorem rts_ends {A lo hi nr : Nat} (h : Rts A lo hi nr) : val lo * val lo ≤ A ∧ A ≤ val hi * val hi ∧ lo < 9218868437227405312 ∧ hi < 9218868437227405312 := by
  obtain ⟨f, l, _, _, e, g⟩ := h
  by_cases q : lo = hi
  · have := e q
    subst q
    exact ⟨by omega, by omega, f, f⟩
  · have := g q
    exact ⟨by omega, by omega, by omega, f⟩
/-- The way by a third point: round.Add's call, and the last test. -/
theorem tri_end {X1 Y1 X2 Y2 X3 Y3 : Int} {n n1 n2 xl xh xn al ah an cl ch cn : Nat} (hn : (n : Int) = (X2 - X1) * (X2 - X1) + (Y2 - Y1) * (Y2 - Y1)) (hn1 : (n1 : Int) = (X3 - X1) * (X3 - X1) + (Y3 - Y1) * (Y3 - Y1)) (hn2 : (n2 : Int) = (X2 - X3) * (X2 - X3) + (Y2 - Y3) * (Y2 - Y3))
    (R : Rts (n * 2 ^ twP * 2 ^ twP) xl xh xn) (R1 : Rts (n1 * 2 ^ twP * 2 ^ twP) al ah an) (R2 : Rts (n2 * 2 ^ twP * 2 ^ twP) cl ch cn) :
    TB 28 ah ch 2 (addB 2 ah ch) ∧ (FloatKind.f64.format.order xl (addB 2 ah ch) == some .lt || FloatKind.f64.format.order xl (addB 2 ah ch) == some .eq) = true := by
  obtain ⟨a1, _, a3, _⟩ := rts_ends R
  obtain ⟨_, b2, _, b4⟩ := rts_ends R1
  obtain ⟨_, c2, _, c4⟩ := rts_ends R2
  clear R R1 R2
  have hv : val xl ≤ val ah + val ch := by
    have hC : (0 : Int) ≤ ((2 ^ twP * 2 ^ twP : Nat) : Int) := Int.natCast_nonneg _
    rw [Nat.mul_assoc] at a1 b2 c2
    generalize 2 ^ twP * 2 ^ twP = C at *
    have e : (val xl : Int) ≤ (val ah : Int) + (val ch : Int) := by
      refine tri_int (x1 := X3 - X1) (x2 := X2 - X3) (y1 := Y3 - Y1) (y2 := Y2 - Y3) hC (Int.natCast_nonneg _) (Int.natCast_nonneg _) ?_ ?_ ?_
      · rw [show X3 - X1 + (X2 - X3) = X2 - X1 by omega, show Y3 - Y1 + (Y2 - Y3) = Y2 - Y1 by omega, ← hn]
        exact_mod_cast a1
      · rw [← hn1]
        exact_mod_cast b2
      · rw [← hn2]
        exact_mod_cast c2
    exact_mod_cast e
  clear a1 b2 c2 hn hn1 hn2
  obtain ⟨fz, pz⟩ := tri_float a3 b4 c4 hv
  obtain ⟨f1, _⟩ := fin_fn a3
  obtain ⟨f2, _⟩ := fin_fn b4
  obtain ⟨f3, _⟩ := fin_fn c4
  have fin : ∀ k, k < 9218868437227405312 → finB k = true := fun k hk => by unfold finB rung; simp; omega
  refine ⟨(radd_P 2 f2.1 f3.1 (addS_ok f2.1 f3.1 f2.2 f3.2 (by rw [fin _ b4]; simp))).2, ?_⟩
  rw [lt_num f1.1 fz.1 f1.2 fz.2, eq_num f1.1 fz.1 f1.2 fz.2]
  simp
  omega
end Go.Proofs.YtlhoidkfphellaaDoor

namespace Go.Proofs.YtlhoidkfphellaaDoor
open Go.RowKit

/-- Is operation i done? -/
def On (L : Array Bool) (i : Nat) : Prop := L.getD i false = true
theorem on_set {L : Array Bool} {i : Nat} (hi : i < L.size) (j : Nat) : On (L.setIfInBounds i true) j ↔ j = i ∨ On L j := by
  unfold On
  simp only [Array.getD_eq_getD_getElem?, Array.getElem?_setIfInBounds]
  by_cases h : i = j
  · subst h; simp [hi]
  · have h2 : ¬ j = i := fun e => h e.symm
    simp [h, h2]
def lacks (L : Array Bool) : Nat := L.toList.count false
theorem count_set : ∀ (l : List Bool) (i : Nat) (hi : i < l.length), l[i] = false → (l.set i true).count false + 1 = l.count false
  | [], _, hi, _ => by simp at hi
  | x :: l, 0, _, h => by
    have h : x = false := h
    subst h
    simp
  | x :: l, i + 1, hi, h => by
    have := count_set l i (by simpa using hi) (by simpa using h)
    simp only [List.set_cons_succ, List.count_cons]
    omega
theorem lacks_set {L : Array Bool} {i : Nat} (hi : i < L.size) (h : L.getD i true = false) : lacks (L.setIfInBounds i true) + 1 = lacks L := by
  unfold lacks
  obtain ⟨l⟩ := L
  have hi : i < l.length := hi
  have h' : l[i] = false := by simpa [Array.getD, hi] using h
  have := count_set l i hi h'
  simpa using this
theorem all_on {L : Array Bool} (h : lacks L = 0) (i : Nat) : L.getD i true = true := by
  unfold lacks at h
  rw [List.count_eq_zero] at h
  obtain ⟨l⟩ := L
  by_cases hi : i < l.length
  · have hm : l[i] ∈ l := List.getElem_mem hi
    cases hl : l[i]
    · rw [hl] at hm; exact absurd hm h
    · simp [Array.getD, hi, hl]
  · simp [Array.getD, hi]
theorem mem_ready {ops : Array Oper} {L : Array Bool} {i : Nat} (h : i ∈ Region.ready .any ops L) : i < ops.size ∧ L.getD i true = false ∧ ∀ o, ops[i]? = some o → ∀ e ∈ o.after, Region.binds .any e = true → On L e.on := by
  unfold Region.ready at h
  rw [List.mem_filter, List.mem_range] at h
  obtain ⟨h1, h2⟩ := h
  simp only [Bool.and_eq_true, Bool.not_eq_true'] at h2
  refine ⟨h1, h2.1, fun o ho e he hb => ?_⟩
  have h3 := h2.2
  rw [ho] at h3
  simp only [Option.map_some, Option.getD_some, Array.all_eq_true_iff_forall_mem] at h3
  have := h3 e he
  rw [hb] at this
  simpa [On] using this
/-- What an operation that may be next waits for is done. -/
theorem ready_dep {ops : Array Oper} {L : Array Bool} {i : Nat} (h : i ∈ Region.ready .any ops L) (k : Nat) (hk : ((ops[i]?).map (fun o => o.after.any fun e => Region.binds .any e && e.on == k)).getD false = true) : On L k := by
  obtain ⟨h1, _, h3⟩ := mem_ready h
  cases ho : ops[i]? with
  | none => rw [ho] at hk; cases hk
  | some o =>
    rw [ho] at hk
    simp only [Option.map_some, Option.getD_some] at hk
    have hk2 : ∃ e, e ∈ o.after ∧ (Region.binds .any e && e.on == k) = true := by
      rw [← Array.any_toList] at hk
      obtain ⟨e, he, hb⟩ := List.any_eq_true.1 hk
      exact ⟨e, by simpa using he, hb⟩
    obtain ⟨e, he, hb⟩ := hk2
    simp only [Bool.and_eq_true, beq_iff_eq] at hb
    rw [← hb.2]
    exact h3 o ho e he hb.1
/-- Where none may be next, all are done (each waits for earlier ones alone). -/
theorem all_done {ops : Array Oper} {L : Array Bool} (hL : L.size = ops.size) (h : Region.ready .any ops L = []) (hk : ((List.range ops.size).all fun i => ((ops[i]?).map (fun o => o.after.all fun e => !Region.binds .any e || decide (e.on < i))).getD true) = true) : ∀ i, i < ops.size → On L i := by
  intro i
  induction i using Nat.strongRecOn with
  | _ i ih =>
    intro hi
    by_cases hn : On L i
    · exact hn
    · exfalso
      have hm : i ∈ Region.ready .any ops L := by
        unfold Region.ready
        rw [List.mem_filter, List.mem_range]
        refine ⟨hi, ?_⟩
        simp only [Bool.and_eq_true, Bool.not_eq_true']
        constructor
        · unfold On at hn
          simp [Array.getD, hL, hi] at hn ⊢
          exact hn
        · rw [Array.getElem?_eq_getElem hi]
          simp only [Option.map_some, Option.getD_some]
          rw [Array.all_eq_true_iff_forall_mem]
          intro e he
          have h1 := List.all_eq_true.1 hk i (List.mem_range.2 hi)
          rw [Array.getElem?_eq_getElem hi] at h1
          simp only [Option.map_some, Option.getD_some] at h1
          have h2 := Array.all_eq_true_iff_forall_mem.1 h1 e he
          simp only [Bool.or_eq_true, Bool.not_eq_true', decide_eq_true_eq] at h2 ⊢
          rcases h2 with h2 | h2
          · exact Or.inl h2
          · exact Or.inr (ih e.on h2 (by omega))
      rw [h] at hm
      cases hm
theorem wpAny_inv {P : Program} {ops : Array Oper} {Q : Exit → Act → World → Prop} (Inv : Array Bool → Act → World → Prop)
    (hs : ∀ L a w i, L.size = ops.size → Inv L a w → i ∈ Region.ready .any ops L → wpOp P ops Q i (Inv (L.setIfInBounds i true)) a w)
    (hf : ∀ L a w, L.size = ops.size → Inv L a w → Region.ready .any ops L = [] → Q .normal a w) :
    ∀ fuel L a w, L.size = ops.size → lacks L ≤ fuel → Inv L a w → wpAny P .any ops Q fuel L a w := by
  intro fuel
  induction fuel with
  | zero =>
    intro L a w hL hc hI
    have hr : Region.ready .any ops L = [] := by
      rw [List.eq_nil_iff_forall_not_mem]
      intro i hi
      have h := (mem_ready hi).2.1
      rw [all_on (by omega) i] at h
      cases h
    exact ⟨hr, hf L a w hL hI hr⟩
  | succ fuel ih =>
    intro L a w hL hc hI
    refine ⟨hf L a w hL hI, fun i hi => ?_⟩
    obtain ⟨h1, h2, _⟩ := mem_ready hi
    refine wpOp_mono (fun a' w' h' => ih _ a' w' (by simp [hL]) ?_ h') (hs L a w i hL hI hi)
    have := lacks_set (by rw [hL]; exact h1) h2
    omega
theorem region_inv {P : Program} {ops : Array Oper} {Q : Exit → Act → World → Prop} {id : Nat} {a : Act} {w : World} (hm : P.follows .mixedOrders = true) (Inv : Array Bool → Act → World → Prop)
    (h0 : Inv (Array.replicate ops.size false) a w.drew)
    (hs : ∀ L a w i, L.size = ops.size → Inv L a w → i ∈ Region.ready .any ops L → wpOp P ops Q i (Inv (L.setIfInBounds i true)) a w)
    (hf : ∀ L a w, L.size = ops.size → Inv L a w → Region.ready .any ops L = [] → Q .normal a w) : (Code.region id ops true).wp P Q a w :=
  wp_region_any hm (wpAny_inv Inv hs hf ops.size _ _ _ (by simp) (by unfold lacks; simp) h0)
end Go.Proofs.YtlhoidkfphellaaDoor

namespace Go.Proofs.YtlhoidkfphellaaDoor
open Go.RowKit

theorem on_none {n i : Nat} : ¬ On (Array.replicate n false) i := by
  unfold On
  simp only [Array.getD_eq_getD_getElem?, Array.getElem?_replicate]
  split <;> simp
theorem off_not {L : Array Bool} {i : Nat} (hi : i < L.size) (h : L.getD i true = false) : ¬ On L i := by
  unfold On
  intro h2
  simp [Array.getD, hi] at h h2
  rw [h] at h2
  cases h2
theorem wpOp_of {P : Program} {ops : Array Oper} {Q : Exit → Act → World → Prop} {i : Nat} {a : Act} {w : World} {K' : Act → World → Prop} (h : ∀ K : Act → World → Prop, (∀ a w, K' a w → K a w) → wpOp P ops Q i K a w) : wpOp P ops Q i K' a w := h K' (fun _ _ h => h)
def put9 (v : Nat → Value) (i : Nat) (x : Value) (n : Nat) : Value := if n = i then x else v n
/-- Does operation j wait for k? -/
def waits (ops : Array Oper) (j k : Nat) : Bool := ((ops[j]?).map (fun o => o.after.any fun e => Region.binds .any e && e.on == k)).getD false
/-- What holds while the region is under way: M false ahead of the store s, M true behind it; val: what each operation tells. -/
structure Rg9 (ops : Array Oper) (M : Bool → World → Prop) (s : Nat) (val : Nat → Value) (L : Array Bool) (w : World) (v : Nat → Value) : Prop where
  n : ¬ On L s → M false w
  y : On L s → M true w
  d : ∀ j, On L j → v j = val j
  dc : ∀ j k, On L j → waits ops j k = true → On L k
theorem Rg9.start {ops : Array Oper} {M : Bool → World → Prop} {s : Nat} {val : Nat → Value} {w : World} {v : Nat → Value} {n : Nat} (h : M false w) : Rg9 ops M s val (Array.replicate n false) w v :=
  ⟨fun _ => h, fun g => absurd g on_none, fun _ g => absurd g on_none, fun _ _ g => absurd g on_none⟩
theorem Rg9.step {ops : Array Oper} {M : Bool → World → Prop} {s : Nat} {val : Nat → Value} {L : Array Bool} {w w' : World} {v : Nat → Value} {i : Nat} {u : Value} (hM : ∀ b w w', M b w → Below w.heap.size w w' → M b w') (h : Rg9 ops M s val L w v) (hL : L.size = ops.size) (hi : i ∈ Region.ready .any ops L) (his : i ≠ s) (hb : Below w.heap.size w w') (hu : u = val i) :
    Rg9 ops M s val (L.setIfInBounds i true) w' (put9 v i u) := by
  have h1 := (mem_ready hi).1
  have hi2 : i < L.size := by rw [hL]; exact h1
  refine ⟨fun g => hM _ _ _ (h.n fun q => g ((on_set hi2 s).2 (Or.inr q))) hb, fun g => hM _ _ _ (h.y (((on_set hi2 s).1 g).resolve_left (Ne.symm his))) hb, fun j g => ?_, fun j k g hw => ?_⟩
  · by_cases e : j = i
    · subst e; rw [put9, if_pos rfl]; exact hu
    · rw [put9, if_neg e]; exact h.d j (((on_set hi2 j).1 g).resolve_left e)
  · rcases (on_set hi2 j).1 g with e | q
    · subst e; exact (on_set hi2 k).2 (Or.inr (ready_dep hi k hw))
    · exact (on_set hi2 k).2 (Or.inr (h.dc j k q hw))
theorem Rg9.store {ops : Array Oper} {M : Bool → World → Prop} {s : Nat} {val : Nat → Value} {L : Array Bool} {w w' : World} {v : Nat → Value} {u : Value} (h : Rg9 ops M s val L w v) (hL : L.size = ops.size) (hi : s ∈ Region.ready .any ops L) (hst : M true w') (hu : u = val s) :
    Rg9 ops M s val (L.setIfInBounds s true) w' (put9 v s u) := by
  have h1 := (mem_ready hi).1
  have hi2 : s < L.size := by rw [hL]; exact h1
  refine ⟨fun g => absurd ((on_set hi2 s).2 (Or.inl rfl)) g, fun _ => hst, fun j g => ?_, fun j k g hw => ?_⟩
  · by_cases e : j = s
    · subst e; rw [put9, if_pos rfl]; exact hu
    · rw [put9, if_neg e]; exact h.d j (((on_set hi2 j).1 g).resolve_left e)
  · rcases (on_set hi2 j).1 g with e | q
    · subst e; exact (on_set hi2 k).2 (Or.inr (ready_dep hi k hw))
    · exact (on_set hi2 k).2 (Or.inr (h.dc j k q hw))
theorem region_rg9 {P : Program} {ops : Array Oper} {Q : Exit → Act → World → Prop} {id : Nat} {a : Act} {w : World} (hm : P.follows .mixedOrders = true) (F : (Nat → Value) → Act) (M : Bool → World → Prop) (s : Nat) (val : Nat → Value) (v0 : Nat → Value) (h0 : a = F v0) (hM0 : M false w.drew)
    (hs : ∀ L v w i, L.size = ops.size → Rg9 ops M s val L w v → i ∈ Region.ready .any ops L → wpOp P ops Q i (fun a' w' => ∃ v', a' = F v' ∧ Rg9 ops M s val (L.setIfInBounds i true) w' v') (F v) w)
    (hf : ∀ L v w, L.size = ops.size → Rg9 ops M s val L w v → Region.ready .any ops L = [] → Q .normal (F v) w) : (Code.region id ops true).wp P Q a w := by
  refine region_inv hm (fun L a w' => ∃ v, a = F v ∧ Rg9 ops M s val L w' v) ⟨v0, h0, Rg9.start hM0⟩ ?_ ?_
  · rintro L a w' i hL ⟨v, rfl, hS⟩ hi
    exact hs L v w' i hL hS hi
  · rintro L a w' hL ⟨v, rfl, hS⟩ hr
    exact hf L v w' hL hS hr
end Go.Proofs.YtlhoidkfphellaaDoor

namespace Go.Proofs.YtlhoidkfphellaaDoor
open Go.RowKit

/-- What holds while the region is under way: M of the memory that stays; operation ia makes the box g, is fills it. -/
structure RgA (ops : Array Oper) (M : World → Prop) (B ia is : Nat) (x y x' y' : Value) (val : Nat → Value) (L : Array Bool) (w : World) (v : Nat → Value) (g : Nat) : Prop where
  m : M w
  d : ∀ j, j ≠ ia → On L j → v j = val j
  p : On L ia → v ia = .pointer (some ⟨g, 0, none⟩) ∧ B ≤ g
  n : On L ia → ¬ On L is → Bx w g x y
  y : On L is → Bx w g x' y'
  dc : ∀ j k, On L j → waits ops j k = true → On L k
theorem RgA.start {ops : Array Oper} {M : World → Prop} {B ia is : Nat} {x y x' y' : Value} {val : Nat → Value} {w : World} {v : Nat → Value} {g n : Nat} (h : M w) : RgA ops M B ia is x y x' y' val (Array.replicate n false) w v g :=
  ⟨h, fun _ _ q => absurd q on_none, fun q => absurd q on_none, fun q => absurd q on_none, fun q => absurd q on_none, fun _ _ q => absurd q on_none⟩
theorem RgA.step {ops : Array Oper} {M : World → Prop} {B ia is : Nat} {x y x' y' : Value} {val : Nat → Value} {L : Array Bool} {w w' : World} {v : Nat → Value} {g i : Nat} {u : Value} (hM : ∀ w w', M w → Below w.heap.size w w' → M w') (h : RgA ops M B ia is x y x' y' val L w v g) (hL : L.size = ops.size) (hi : i ∈ Region.ready .any ops L) (hia : i ≠ ia) (his : i ≠ is) (hb : Below w.heap.size w w') (hu : u = val i) :
    RgA ops M B ia is x y x' y' val (L.setIfInBounds i true) w' (put9 v i u) g := by
  have hi2 : i < L.size := by rw [hL]; exact (mem_ready hi).1
  have on := fun (j : Nat) (q : j ≠ i) (e : On (L.setIfInBounds i true) j) => ((on_set hi2 j).1 e).resolve_left q
  refine ⟨hM _ _ h.m hb, fun j qa e => ?_, fun e => ?_, fun e f => ?_, fun e => ?_, fun j k e hw2 => ?_⟩
  · by_cases q : j = i
    · subst q; rw [put9, if_pos rfl]; exact hu
    · rw [put9, if_neg q]; exact h.d j qa (on j q e)
  · rw [put9, if_neg (Ne.symm hia)]; exact h.p (on _ (Ne.symm hia) e)
  · exact (h.n (on _ (Ne.symm hia) e) (fun q => f ((on_set hi2 is).2 (Or.inr q)))).below hb
  · exact (h.y (on _ (Ne.symm his) e)).below hb
  · rcases (on_set hi2 j).1 e with q | q
    · subst q; exact (on_set hi2 k).2 (Or.inr (ready_dep hi k hw2))
    · exact (on_set hi2 k).2 (Or.inr (h.dc j k q hw2))
theorem RgA.make {ops : Array Oper} {M : World → Prop} {B ia is : Nat} {x y x' y' : Value} {val : Nat → Value} {L : Array Bool} {w : World} {v : Nat → Value} {g : Nat} {t : TypeId} (hM : ∀ w w', M w → Below w.heap.size w w' → M w') (h : RgA ops M B ia is x y x' y' val L w v g) (hL : L.size = ops.size) (hi : ia ∈ Region.ready .any ops L) (hno : ¬ On L ia) (hne : ia ≠ is) (hB : B ≤ w.heap.size) (hw : waits ops is ia = true) :
    RgA ops M B ia is x y x' y' val (L.setIfInBounds ia true) (w.alloc (.cells #[x, y] t)) (put9 v ia (.pointer (some ⟨w.heap.size, 0, none⟩))) w.heap.size := by
  have hi2 : ia < L.size := by rw [hL]; exact (mem_ready hi).1
  have hb : Below w.heap.size w (w.alloc (.cells #[x, y] t)) := (Below.refl _ _).alloc (Nat.le_refl _) _
  refine ⟨hM _ _ h.m hb, fun j qa e => ?_, fun _ => ⟨by rw [put9, if_pos rfl], hB⟩, fun _ _ => Bx.new _ _ _ _, fun e => ?_, fun j k e hw2 => ?_⟩
  · rw [put9, if_neg qa]; exact h.d j qa (((on_set hi2 j).1 e).resolve_left qa)
  · exact absurd (h.dc is ia (((on_set hi2 is).1 e).resolve_left (Ne.symm hne)) hw) hno
  · rcases (on_set hi2 j).1 e with q | q
    · subst q; exact (on_set hi2 k).2 (Or.inr (ready_dep hi k hw2))
    · exact (on_set hi2 k).2 (Or.inr (h.dc j k q hw2))
theorem RgA.store {ops : Array Oper} {M : World → Prop} {B ia is : Nat} {x y x' y' : Value} {val : Nat → Value} {L : Array Bool} {w : World} {v : Nat → Value} {g : Nat} {u : Value} (hM : ∀ w, M w → M ((w.setCell ⟨g, 0, none⟩ x').setCell ⟨g, 1, none⟩ y')) (h : RgA ops M B ia is x y x' y' val L w v g) (hL : L.size = ops.size) (hi : is ∈ Region.ready .any ops L) (hno : ¬ On L is) (hne : ia ≠ is) (hw : waits ops is ia = true) (hu : u = val is) :
    RgA ops M B ia is x y x' y' val (L.setIfInBounds is true) ((w.setCell ⟨g, 0, none⟩ x').setCell ⟨g, 1, none⟩ y') (put9 v is u) g := by
  have hi2 : is < L.size := by rw [hL]; exact (mem_ready hi).1
  have ha := ready_dep hi ia hw
  refine ⟨hM _ h.m, fun j qa e => ?_, fun _ => ?_, fun _ f => absurd ((on_set hi2 is).2 (Or.inl rfl)) f, fun _ => (h.n ha hno).put _ _, fun j k e hw2 => ?_⟩
  · by_cases q : j = is
    · subst q; rw [put9, if_pos rfl]; exact hu
    · rw [put9, if_neg q]; exact h.d j qa (((on_set hi2 j).1 e).resolve_left q)
  · rw [put9, if_neg hne]; exact h.p ha
  · rcases (on_set hi2 j).1 e with q | q
    · subst q; exact (on_set hi2 k).2 (Or.inr (ready_dep hi k hw2))
    · exact (on_set hi2 k).2 (Or.inr (h.dc j k q hw2))
theorem region_rgA {P : Program} {ops : Array Oper} {Q : Exit → Act → World → Prop} {id : Nat} {a : Act} {w : World} (hm : P.follows .mixedOrders = true) (F : (Nat → Value) → Act) (M : World → Prop) (B ia is : Nat) (x y x' y' : Value) (val : Nat → Value) (v0 : Nat → Value) (h0 : a = F v0) (hM0 : M w.drew)
    (hs : ∀ L v g w i, L.size = ops.size → RgA ops M B ia is x y x' y' val L w v g → i ∈ Region.ready .any ops L → wpOp P ops Q i (fun a' w' => ∃ v' g', a' = F v' ∧ RgA ops M B ia is x y x' y' val (L.setIfInBounds i true) w' v' g') (F v) w)
    (hf : ∀ L v g w, L.size = ops.size → RgA ops M B ia is x y x' y' val L w v g → Region.ready .any ops L = [] → Q .normal (F v) w) : (Code.region id ops true).wp P Q a w := by
  refine region_inv hm (fun L a w' => ∃ v g, a = F v ∧ RgA ops M B ia is x y x' y' val L w' v g) ⟨v0, 0, h0, RgA.start hM0⟩ ?_ ?_
  · rintro L a w' i hL ⟨v, g, rfl, hS⟩ hi
    exact hs L v g w' i hL hS hi
  · rintro L a w' hL ⟨v, g, rfl, hS⟩ hr
    exact hf L v g w' hL hS hr
end Go.Proofs.YtlhoidkfphellaaDoor

namespace Go.Proofs.YtlhoidkfphellaaDoor
open Go.ChangeShapes Go.RowKit

theorem trodAll_six {H : Type} {enc : TypeId × Value → H} {P : Program} {w : World} {base : Nat} {spare : Nat → Bool} {held : Bool} {t0 t1 t2 t3 t4 t5 : TypeId} {args : Array Value} {ds : List (DataW H)} {ps : List MemPlace} (h : DataW.TrodAll enc P w base spare held [t0, t1, t2, t3, t4, t5] args.toList ds ps) :
    ∃ v0 v1 v2 v3 v4 v5 d0 d1 d2 d3 d4 d5 p0 p1 p2 p3 p4 p5, args = #[v0, v1, v2, v3, v4, v5] ∧ ds = [d0, d1, d2, d3, d4, d5] ∧ ps = p0 ++ p1 ++ p2 ++ p3 ++ p4 ++ p5 ∧ DataW.Trod enc P w base spare held t0 v0 d0 p0 ∧ DataW.Trod enc P w base spare held t1 v1 d1 p1 ∧ DataW.Trod enc P w base spare held t2 v2 d2 p2 ∧ DataW.Trod enc P w base spare held t3 v3 d3 p3 ∧ DataW.Trod enc P w base spare held t4 v4 d4 p4 ∧ DataW.Trod enc P w base spare held t5 v5 d5 p5 := by
  obtain ⟨v0, vs0, d0, ds0, p0, q0, hargs, rfl, rfl, h0, g0⟩ := trodAll_cons h
  obtain ⟨v1, vs1, d1, ds1, p1, q1, rfl, rfl, rfl, h1, g1⟩ := trodAll_cons g0
  obtain ⟨v2, vs2, d2, ds2, p2, q2, rfl, rfl, rfl, h2, g2⟩ := trodAll_cons g1
  obtain ⟨v3, vs3, d3, ds3, p3, q3, rfl, rfl, rfl, h3, g3⟩ := trodAll_cons g2
  obtain ⟨v4, vs4, d4, ds4, p4, q4, rfl, rfl, rfl, h4, g4⟩ := trodAll_cons g3
  obtain ⟨v5, vs5, d5, ds5, p5, q5, rfl, rfl, rfl, h5, g5⟩ := trodAll_cons g4
  obtain ⟨rfl, rfl, rfl⟩ := trodAll_nil g5
  exact ⟨v0, v1, v2, v3, v4, v5, d0, d1, d2, d3, d4, d5, p0, p1, p2, p3, p4, p5, by cases args; simp_all, rfl, by simp, h0, h1, h2, h3, h4, h5⟩
theorem trodAll_mk6 {H : Type} {enc : TypeId × Value → H} {P : Program} {w : World} {base : Nat} {spare : Nat → Bool} {held : Bool} {t0 t1 t2 t3 t4 t5 : TypeId} {v0 v1 v2 v3 v4 v5 : Value} {d0 d1 d2 d3 d4 d5 : DataW H} {p0 p1 p2 p3 p4 p5 : List MemPlace} (h0 : DataW.Trod enc P w base spare held t0 v0 d0 p0) (h1 : DataW.Trod enc P w base spare held t1 v1 d1 p1) (h2 : DataW.Trod enc P w base spare held t2 v2 d2 p2) (h3 : DataW.Trod enc P w base spare held t3 v3 d3 p3) (h4 : DataW.Trod enc P w base spare held t4 v4 d4 p4) (h5 : DataW.Trod enc P w base spare held t5 v5 d5 p5) :
    DataW.TrodAll enc P w base spare held [t0, t1, t2, t3, t4, t5] [v0, v1, v2, v3, v4, v5] [d0, d1, d2, d3, d4, d5] (p0 ++ (p1 ++ (p2 ++ (p3 ++ (p4 ++ p5))))) :=
  ⟨p0, _, h0, ⟨p1, _, h1, trodAll_mk4 h2 h3 h4 h5, rfl⟩, rfl⟩
end Go.Proofs.YtlhoidkfphellaaDoor
