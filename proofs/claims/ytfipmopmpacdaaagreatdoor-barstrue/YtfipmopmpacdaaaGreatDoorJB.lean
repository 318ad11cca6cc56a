/- The laws' awake of layer 18. -/
import Derived.Test.YtfipmopmpacdaaaGreatDoorWA
import Derived.Test.YtfipmopmpacdaaaGreatDoorZQ
import Derived.Test.YtfipmopmpacdaaaGreatDoorU2
import Derived.Test.YtfipmopmpacdaaaGreatDoorJA
namespace Go.Proofs.YtfipmopmpacdaaaGreatDoor
open Go.RowKit
abbrev C2 (F : Nat) (p q r : Nat × Nat) (n : Int) : Prop := ∀ w, TabW w → Calls Tryz.prog F #[spV p.1 p.2, spV q.1 q.2] w fun e w' => e = .returned (.tuple #[spV r.1 r.2, .int .i64 n]) ∧ Below w.heap.size w w'
abbrev C1 (F : Nat) (p r : Nat × Nat) (n : Int) : Prop := ∀ w, TabW w → Calls Tryz.prog F #[spV p.1 p.2] w fun e w' => e = .returned (.tuple #[spV r.1 r.2, .int .i64 n]) ∧ Below w.heap.size w w'
theorem mul_C {p q : Nat × Nat} (h : RtP p) (g : RtP q) : C2 55 p q (muP p q) 0 := fun w hT => smul_B p.1 p.2 q.1 q.2 tB h.2.2 g.2.2 (corn_mulP h.1 h.2.1 g.1 g.2.1 h.2.2 g.2.2) w hT
theorem div_C {p q : Nat × Nat} (h : RtP p) (g : RtP q) (h0 : (leF q.1 0 && leF 0 q.2) = false) : C2 57 p q (diP p q) 0 := fun w hT => sdiv_B p.1 p.2 q.1 q.2 oB h.2.2 g.2.2 (by rw [g.2.2, show finB 0 = true by decide]; simpa using h0) (corn_divP h.1 h.2.1 g.1 g.2.1 h.2.2 g.2.2 h0) w hT
theorem ord_gt0 {x : Nat} (h : Fn x) : (FloatKind.f64.format.order x 0 == some .gt) = decide (0 < place x) := by
 rw [gt_num h.1 (by omega) h.2 (by decide)]; rfl
theorem ord_lt0 {x : Nat} (h : Fn x) : (FloatKind.f64.format.order x 0 == some .lt) = decide (place x < 0) := by
 rw [lt_num h.1 (by omega) h.2 (by decide)]; rfl
theorem sqrt_C {p : Nat × Nat} (h : RtP p) (h0 : 0 ≤ place p.1) : C1 68 p (sqP p) 0 := by
 have g := ord_lt0 h.fn.1
 have := h.pl.1
 exact fun w hT => ssqrt_B p.1 p.2 _ _ h.1 h.2.1 h.2.2 (by rw [g]; simpa using h0) (rsqrt_P 1 h.1 (root_ok h.fn.1 h0)).2 (rsqrt_P 2 h.2.1 (root_ok h.fn.2 (by omega))).2 w hT
theorem mg_form {k : Nat} (h0 : k ≠ 0) : mg k < 9007199254740992 ∧ mg k ≠ 0 ∧ (up k = 0 ∨ 4503599627370496 ≤ mg k) ∧ up k * 4503599627370496 + mg k = k := by
 unfold mg up
 split
 ·exact ⟨by omega, h0, Or.inl rfl, by omega⟩
 ·exact ⟨by omega, by omega, Or.inr (by omega), by omega⟩
theorem near_exact (s : Bool) {m k K : Nat} {p : Int} (hk : k < 9218868437227405312) (hK : 0 ≤ p + 1074 + (K : Int)) (h : m * 2 ^ (p + 1074 + (K : Int)).toNat = val k * 2 ^ K) : Ieee.double.nearest s m p = Ieee.double.word s k := by
 obtain ⟨a, ha⟩ : ∃ a : Nat, (p + 1074 + (K : Int)).toNat = a := ⟨_, rfl⟩
 have hpa : p + 1074 + (K : Int) = (a : Int) := by omega
 rw [ha] at h
 by_cases h0 : k = 0
 ·subst h0
  rw [val_zero, Nat.zero_mul] at h
  have hm : m = 0 := (Nat.mul_eq_zero.1 h).resolve_right (by have := Nat.two_pow_pos a; omega)
  unfold Ieee.Format.nearest
  rw [if_pos hm]
 ·obtain ⟨h1, h2, h3, h4⟩ := mg_form h0
  have e := nearest_val s m p (mg k) (up k) h1 h2 h3
  rw [h4, Nat.min_eq_left (by omega)] at e
  refine e ?_
  rw [← mg_up k, Nat.mul_assoc, ← Nat.pow_add] at h
  by_cases c : up k + K ≤ a
  ·left
   refine ⟨a - (up k + K), by omega, ?_⟩
   have e1 : a = (a - (up k + K)) + (up k + K) := by omega
   rw [e1, Nat.pow_add, ← Nat.mul_assoc] at h
   exact Nat.eq_of_mul_eq_mul_right (Nat.two_pow_pos _) h
  ·right
   refine ⟨up k + K - a, by omega, ?_⟩
   have e1 : up k + K = (up k + K - a) + a := by omega
   rw [e1, Nat.pow_add, ← Nat.mul_assoc] at h
   exact Nat.eq_of_mul_eq_mul_right (Nat.two_pow_pos _) h
theorem ladder_18 {n E : Nat} (hE : E = 1074) (hn : n < 9007199254740992) : ∃ k, k < 9218868437227405312 ∧ val k = n * 2 ^ E := by
 by_cases h0 : n = 0
 ·exact ⟨0, by omega, by rw [h0, val_zero, Nat.zero_mul]⟩
 ·obtain ⟨l, hl⟩ : ∃ l, n.log2 = l := ⟨_, rfl⟩
  have hl2 : l ≤ 52 := by
   have := (Nat.log2_lt h0).2 (show n < 2 ^ 53 by omega)
   omega
  have l1 : 2 ^ l ≤ n := by rw [← hl]; exact Nat.log2_self_le h0
  have l2 : n < 2 ^ (l + 1) := by rw [← hl]; exact Nat.lt_log2_self
  obtain ⟨M, hM⟩ : ∃ M, n * 2 ^ (52 - l) = M := ⟨_, rfl⟩
  have m1 : 4503599627370496 ≤ M := by
   rw [← hM]
   have : 2 ^ l * 2 ^ (52 - l) ≤ n * 2 ^ (52 - l) := Nat.mul_le_mul_right _ l1
   rw [← Nat.pow_add, show l + (52 - l) = 52 by omega] at this
   exact this
  have m2 : M < 9007199254740992 := by
   rw [← hM]
   have : n * 2 ^ (52 - l) < 2 ^ (l + 1) * 2 ^ (52 - l) := Nat.mul_lt_mul_of_pos_right l2 (Nat.two_pow_pos _)
   rw [← Nat.pow_add, show l + 1 + (52 - l) = 53 by omega] at this
   exact this
  refine ⟨(E + l - 52) * 4503599627370496 + M, by omega, ?_⟩
  unfold val
  rw [if_neg (by omega)]
  have q1 : ((E + l - 52) * 4503599627370496 + M) % 4503599627370496 = M - 4503599627370496 := by omega
  have q2 : ((E + l - 52) * 4503599627370496 + M) / 4503599627370496 - 1 = E + l - 52 := by omega
  rw [q1, q2, show 4503599627370496 + (M - 4503599627370496) = M by omega, ← hM, Nat.mul_assoc, ← Nat.pow_add, show 52 - l + (E + l - 52) = E by omega]
theorem of_nat {E : Nat} (hE : E = 1074) {n : Nat} (hn : n < 9007199254740992) : ∃ k, k < 9218868437227405312 ∧ floatOfInt .f64 (n : Int) = k ∧ val k = n * 2 ^ E := by
 obtain ⟨k, k1, k2⟩ := ladder_18 hE hn
 refine ⟨k, k1, ?_, k2⟩
 have e : floatOfInt .f64 (n : Int) = Ieee.double.nearest (decide ((n : Int) < 0)) (n : Int).natAbs 0 := rfl
 have e2 : decide ((n : Int) < 0) = false := by simp
 have e3 : (n : Int).natAbs = n := rfl
 rw [e, e2, e3, near_exact false (K := 0) k1 (by omega) (by rw [show ((0 : Int) + 1074 + ((0 : Nat) : Int)).toNat = E by omega, k2]; simp)]
 exact word_pos k
def l2F (a b : Jn) : Nat := floatOfInt .f64 (aptA a b).2.2
theorem aptA_bd (a b : Jn) : 0 ≤ (aptA a b).2.2 ∧ (aptA a b).2.2 ≤ 8796093022208 := by
 unfold aptA
 split
 ·rename_i h
  unfold aptB at h
  obtain ⟨⟨⟨a1, a2⟩, a3⟩, a4⟩ : ((crB a.2.1 = true ∧ crB a.2.2.1 = true) ∧ crB b.2.1 = true) ∧ crB b.2.2.1 = true := by simpa using h
  have a1 := kcr_le a1
  have a2 := kcr_le a2
  have a3 := kcr_le a3
  have a4 := kcr_le a4
  have s1 := sq_le (x := b.2.1 - a.2.1) (by omega)
  have s2 := sq_le (x := b.2.2.1 - a.2.2.1) (by omega)
  simp only
  omega
 ·simp
theorem l2F_facts {E : Nat} (hE : E = 1074) (a b : Jn) : ∃ k, k < 9218868437227405312 ∧ l2F a b = k ∧ val k = (aptA a b).2.2.natAbs * 2 ^ E := by
 obtain ⟨h0, h1⟩ := aptA_bd a b
 unfold l2F
 generalize (aptA a b).2.2 = n at *
 obtain ⟨m, rfl⟩ : ∃ m : Nat, n = m := ⟨n.toNat, by omega⟩
 exact of_nat hE (by omega)
theorem fin_fn {k : Nat} (hk : k < 9218868437227405312) : Fn k ∧ place k = (k : Int) := by
 have s : sgn k = false := by unfold sgn; simp; omega
 have r : rung k = k := by unfold rung; omega
 refine ⟨⟨by omega, ?_⟩, ?_⟩
 ·unfold nanB; rw [r]; simp; omega
 ·unfold place; rw [s, r]; simp
theorem fin_rt {k : Nat} (hk : k < 9218868437227405312) : RtP (k, k) ∧ 0 ≤ place k := by
 obtain ⟨f, p⟩ := fin_fn hk
 exact ⟨RtP.mk f f (by simp) (by simp only; omega) (by simp only; omega), by omega⟩
set_option maxHeartbeats 2000000 in
theorem length_any (a b : Jn) (w : World) (hT : TabW w) :
  Calls Tryz.prog 53 #[jV a, jV b] w fun e w' => e = .returned (.tuple #[spV (sqB 1 (l2F a b)) (sqB 2 (l2F a b)), .float .f64 (sqB 0 (l2F a b))]) ∧ Below w.heap.size w w' := by
 have hst := run_storef Tryz.prog
 have cA := fun w' => apart_any a b w'
 obtain ⟨k, k1, k2, _⟩ := l2F_facts rfl a b
 obtain ⟨hr, hp⟩ := fin_rt k1
 have cS : C1 68 (k, k) (sqP (k, k)) 0 := sqrt_C hr hp
 have cR := (rsqrt_P 0 (x := k) (by omega) (root_ok hr.fn.1 hp)).2
 have hF : floatOfInt .f64 (aptA a b).2.2 = k := k2
 rw [k2]
 clear k2 hr hp k1
 unfold sqP at cS
 simp only at cS
 generalize sqB 1 k = lo at *
 generalize sqB 2 k = hi at *
 generalize sqB 0 k = nr at *
 generalize aptA a b = r at *
 obtain ⟨r1, r2, r3⟩ := r
 simp only at hF cA
 obtain ⟨s, x, y, f⟩ := a
 obtain ⟨t, p, q, g⟩ := b
 unfold jV at cA ⊢
 simp only at cA ⊢
 have hb0 : Below w.heap.size w (((w.alloc (.cells #[.string s, .int .i32 x, .int .i32 y, .int .u8 f] 40)).alloc (.cells #[.string t, .int .i32 p, .int .i32 q, .int .u8 g] 40)).alloc (.cells #[.float .f64 0, .float .f64 0] 43)) := (((Below.refl _ _).alloc (Nat.le_refl _) _).alloc (by simp) _).alloc (by simp; omega) _
 have R0 := Bx.new ((w.alloc (.cells #[.string s, .int .i32 x, .int .i32 y, .int .u8 f] 40)).alloc (.cells #[.string t, .int .i32 p, .int .i32 q, .int .u8 g] 40)) (.float .f64 0) (.float .f64 0) 43
 have hs1 : ((w.alloc (.cells #[.string s, .int .i32 x, .int .i32 y, .int .u8 f] 40)).alloc (.cells #[.string t, .int .i32 p, .int .i32 q, .int .u8 g] 40)).heap.size = w.heap.size + 1 + 1 := by simp
 rw [hs1] at R0
 clear hs1
 go_enter Tryz.func53, Tryz.ntmps53
 go_upto_region 2 with (go_at_call 31; refine (cA _).mono ?_; rintro e w1 ⟨rfl, b1⟩)
 replace R0 := R0.below b1
 have hb1 := hb0.trans (b1.mono hb0.size)
 clear b1 cA hb0
 have T1 := tabW_below hT hb1
 go_upto_region 4 with (go_at_call 68; refine (cS _ T1).mono ?_; rintro e w2 ⟨rfl, b2⟩)
 have R1 := (R0.below b2).alloc (.cells #[.float .f64 lo, .float .f64 hi] 43)
 have S1 := Bx.new w2 (.float .f64 lo) (.float .f64 hi) 43
 have hb2 := hb1.trans (b2.mono hb1.size)
 replace hb2 := hb2.alloc hb2.size (.cells #[.float .f64 lo, .float .f64 hi] 43)
 have T2 := tabW_below hT hb2
 have l1 : w.heap.size + 1 + 1 < w2.heap.size := (R0.below b2).2.2.2.2
 generalize w2.alloc (.cells #[.float .f64 lo, .float .f64 hi] 43) = W at *
 generalize w2.heap.size = P at *
 clear R0 b2 T1 hb1 hF cS
 have TD := tabW_below T2 (Below.refl W.heap.size W).drew
 have n1 : ¬ P = w.heap.size + 1 + 1 := by omega
 have n2 : ¬ w.heap.size + 1 + 1 = P := by omega
 have hz : w.heap.size ≤ w.heap.size + 1 + 1 := by omega
 generalize w.heap.size + 1 + 1 = G at *
 obtain ⟨r0, r1', r2', r3', _⟩ := id R1
 obtain ⟨s0, s1, _, _, _⟩ := id S1
 go_region_with (go_at_call 69; refine (cR _ TD).mono ?_; rintro e w3 ⟨rfl, b3⟩; have b4 := (Below.refl W.heap.size W).drew.trans b3; have R3 := R1.below b4; have S3 := S1.below b4; obtain ⟨u0, u1, u2, u3, _⟩ := id R3; obtain ⟨v0, v1, _, _, _⟩ := id S3)
 all_goals
  have hb3 := hb2.trans (b4.mono hb2.size)
  have c0 : ((w3.setCell ⟨G, 0, none⟩ (.float .f64 lo)).setCell ⟨G, 1, none⟩ (.float .f64 hi)).cell? ⟨G, 0, none⟩ = some (.float .f64 lo) := by simp [go_sem, u0]
  have c1 : ((w3.setCell ⟨G, 0, none⟩ (.float .f64 lo)).setCell ⟨G, 1, none⟩ (.float .f64 hi)).cell? ⟨G, 1, none⟩ = some (.float .f64 hi) := by simp [go_sem, u1]
  go_wp2
  exact bodyPost_ret (v := .tuple #[spV lo hi, .float .f64 nr]) (by simp [results, Tryz.results53, go_sem, c0, c1]) rfl ⟨rfl, set2 hb3 hz _ _⟩
theorem jws_two {a b : Jn} (ha : JW a) (hb : JW b) : JWs [a, b] := fun j hj => by
 rcases List.mem_cons.1 hj with rfl | hj
 ·exact ha
 ·rcases List.mem_cons.1 hj with rfl | hj
  ·exact hb
  ·cases hj
end Go.Proofs.YtfipmopmpacdaaaGreatDoor
