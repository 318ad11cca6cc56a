/- What Sub of the document answers. -/
import Derived.Test.YtnbdhbmiiplmbaaXm1
import Derived.Test.YtnbdhbmiiplmbaaRa
import Derived.Deep.QuietTactic
import Derived.BigQuiet
import Derived.Deep.RegionHeld3
namespace Go.Proofs.Ytnbdhbmiiplmbaa
open Go.RowKit

set_option maxHeartbeats 400000 in
theorem mref_same (a b : Nat) (ha : a < 18446744073709551616) (hb : b < 18446744073709551616) (w : World) :
    Calls Try.prog 62 #[.float .f64 a, .float .f64 b] w fun e w' => e = .returned (.bool (sameB a b)) ∧ w' = w := by
  have fa := run_fbits a
  have fb := run_fbits b
  by_cases h : a = b
  · have b1 : ((a : Int) == (b : Int)) = true := by simp; omega
    have HE : Hid (sameB a b = true) := (show sameB a b = true by unfold sameB; subst h; cases nanB a <;> simp)
    clear h
    go_enter Try.func62, Try.ntmps62
    go_wp2_with (first | (go_at_call 73; refine (rnan_any _ (by assumption) _).mono ?_; rintro e w' ⟨rfl, rfl⟩))
    go_ret
    exact ⟨end_bool HE.out.symm, rfl⟩
  · have b1 : ((a : Int) == (b : Int)) = false := by simp; omega
    have HE : Hid (sameB a b = (nanB a && nanB b)) := (show sameB a b = (nanB a && nanB b) by unfold sameB; cases nanB a <;> simp [h])
    clear h
    cases na : nanB a
    all_goals
      go_enter Try.func62, Try.ntmps62
      go_wp2_with (first | (go_at_call 73; refine (rnan_any _ (by assumption) _).mono ?_; rintro e w' ⟨rfl, rfl⟩))
      go_ret
      exact ⟨end_bool (by rw [HE.out, na]; rfl), rfl⟩
/-- A row of a matrix as it is answered. -/
theorem RRow.gave {w w' : World} {g R C N : Nat} {f : Nat → Nat} {o : Nat → Nat → Option Nat} (h : RRow w' g N f) (hN : R * C = N) (hv : ∀ p, p < N → NR (o (p / C) (p % C)) (f p)) (hg : w.heap.size ≤ g) (hb : Below w.heap.size w w') : GaveF w (tabM R C o) (.slice (some ⟨g, 0, none⟩) N N) w' := by
  unfold tabM
  rw [hN]
  exact ⟨some ⟨g, 0, none⟩, N, toL' N f, by rw [toL'_len], LN_tab (toL'_len _ _) (fun i hi => by rw [toL'_at hi]; exact hv i hi), h.grow (toL'_len _ _) (fun j hj => toL'_at hj), by rw [toL'_len]; exact Nat.le_refl _, fun a e => by cases e; exact hg, hb⟩
set_option maxHeartbeats 1000000 in
theorem rmake_any (r c : Int) (w : World) : Calls Try.prog 22 #[.int .i64 r, .int .i64 c] w fun e w' => GaveA w (mkA r c) e w' := by
  have hB : ∀ o, Below w.heap.size w (w.alloc o) := fun o => below_one w o
  have co := rmay_any
  unfold mkA
  cases q1 : okN r
  · have c1 := fun w => co r w
    rw [q1] at c1
    have hG := fun o => GaveF.nil (hB o)
    go_enter Try.func22, Try.ntmps22
    go_wp2_with (go_at_call 59; refine (c1 _).mono ?_; rintro e w' ⟨rfl, h'⟩; subst w')
    exact bodyPost_ret (v := .tuple #[.agg #[.int .i64 0, .int .i64 0, .slice none 0 0], .int .i64 2]) (by simp [results, Try.results22, go_sem]) rfl ⟨_, rfl, hG _⟩
  · cases q2 : okN c
    · have c1 := fun w => co r w
      have c2 := fun w => co c w
      rw [q1] at c1
      rw [q2] at c2
      have hG := fun o => GaveF.nil (hB o)
      go_enter Try.func22, Try.ntmps22
      go_wp2_with (first | (go_at_call_of 59 (Value.int IntKind.i64 r); refine (c1 _).mono ?_; rintro e w' ⟨rfl, h'⟩; subst w') | (go_at_call_of 59 (Value.int IntKind.i64 c); refine (c2 _).mono ?_; rintro e w' ⟨rfl, h'⟩; subst w'))
      exact bodyPost_ret (v := .tuple #[.agg #[.int .i64 0, .int .i64 0, .slice none 0 0], .int .i64 2]) (by simp [results, Try.results22, go_sem]) rfl ⟨_, rfl, hG _⟩
    · obtain ⟨R, rfl, hR⟩ := okN_nat q1
      obtain ⟨C, rfl, hC⟩ := okN_nat q2
      simp only [Bool.and_self, if_true, Int.toNat_natCast]
      refine Calls.mono (rmake_R R C (R * C) hR hC rfl w) ?_
      rintro e w' ⟨g, rfl, h1, h2, h3, h4⟩
      exact ⟨_, rfl, h1.gave (o := fun _ _ => some 0) rfl (fun p _ => ⟨by omega, rfl⟩) h2 h4⟩
theorem id_place {n k p : Nat} (hk : k < n) : (p = k * n + k) ↔ (p / n = k ∧ p % n = k) := by
  constructor
  · rintro rfl; exact at_div hk
  · rintro ⟨h1, h2⟩
    have := Nat.div_add_mod p n
    rw [h1, h2, Nat.mul_comm] at this
    omega
set_option maxRecDepth 100000 in
set_option maxHeartbeats 2000000 in
theorem rident_any (n : Int) (w : World) : Calls Try.prog 23 #[.int .i64 n] w fun e w' => GaveA w (idA n) e w' := by
  have hb1 := below_one w
  cases q : okN n
  · have e1 : idA n = noA 2 := by unfold idA; rw [q]; rfl
    have cm := fun W => rmake_any n n W
    have e2 : mkA n n = noA 2 := by unfold mkA; rw [q]; rfl
    rw [e2] at cm
    rw [e1]
    have cm2 : ∀ W, Calls Try.prog 22 #[.int .i64 n, .int .i64 n] W fun e w' => ∃ zo zc, e = .returned (.tuple #[.agg #[.int .i64 0, .int .i64 0, .slice zo 0 zc], .int .i64 2]) ∧ Frs W.heap.size zo ∧ Below W.heap.size W w' := fun W => by
      refine Calls.mono (cm W) ?_
      rintro e w' ⟨_, rfl, zo, zc, zs, rfl, h1, _, _, h4, h5⟩
      have hz : zs.length = 0 := h1.1
      rw [hz]
      exact ⟨zo, zc, rfl, h4, h5⟩
    clear cm
    go_enter Try.func23, Try.ntmps23
    go_upto_region 2 with (go_at_call 22; refine (cm2 _).mono ?_; rintro e w1 ⟨zo, zc, rfl, hfr, b1⟩; have RB := (B3.new w _ _ _ _).below b1; have bb := old_one b1)
    have RB1 := RB.alloc (.cells #[.int .i64 0, .int .i64 0, .slice zo 0 zc] 24)
    have MB := B3.new w1 (.int .i64 0) (.int .i64 0) (.slice zo 0 zc) 24
    have hb2 := bb.alloc bb.size (.cells #[.int .i64 0, .int .i64 0, .slice zo 0 zc] 24)
    generalize w1.alloc (.cells #[.int .i64 0, .int .i64 0, .slice zo 0 zc] 24) = W1 at *
    generalize w1.heap.size = M at *
    obtain ⟨t0, t1, t2, s0, s1, s2, _⟩ := id RB1
    obtain ⟨m0, m1, m2, _⟩ := id MB
    have f1 : ((2 : Int) == 0) = false := by decide
    go_wp2
    go_loopg [6] 0 (fun g i wr => wr = W1)
    case atStart => rfl
    case round =>
      subst hrel
      go_wp2
      exact bodyPost_ret (v := .tuple #[.agg #[.int .i64 0, .int .i64 0, .slice zo 0 zc], .int .i64 2]) (by simp [results, Try.results23, go_sem, t0, t1, t2]) rfl ⟨_, rfl, zo, zc, [], rfl, ⟨rfl, fun i hi => absurd hi (Nat.not_lt_zero i)⟩, Or.inl rfl, Nat.zero_le _, hfr.mono (below_one w _).size, set_three hb2 (Nat.le_refl _) _ _ _⟩
  · obtain ⟨R, rfl, hR⟩ := okN_nat q
    have e1 : idA R = ⟨R, R, tabM R R idO, 0⟩ := by unfold idA; rw [q]; rfl
    rw [e1]
    obtain ⟨N, hN⟩ : ∃ N, R * R = N := ⟨_, rfl⟩
    have cm := fun W => rmake_R R R N hR hR hN W
    have hNb : N ≤ 2304 := by rw [← hN]; exact mul48 hR hR
    have HN : Hid (R * R = N) := hN
    have hst := vstoref Try.prog
    clear hN q e1
    go_enter Try.func23, Try.ntmps23
    go_upto_region 2 with (go_at_call 22; refine (cm _).mono ?_; rintro e w1 ⟨g, rfl, hrow, hg1, hg2, b1⟩; have RB := (B3.new w _ _ _ _).below b1; have bb := old_one b1)
    have OS : OutS w (w1.alloc (.cells #[.int .i64 R, .int .i64 R, .slice (some ⟨g, 0, none⟩) N N] 24)) w.heap.size w1.heap.size g R R N (fun _ => 0) :=
      ⟨RB.alloc _, B3.new _ _ _ _ _, hrow.below (below_one _ _) hg2, ⟨Nat.le_refl _, by simp at hg1; omega, hg2, by simp; omega⟩, bb.alloc bb.size _⟩
    clear RB hrow hg1 hg2 bb b1 cm
    generalize w1.alloc (.cells #[.int .i64 R, .int .i64 R, .slice (some ⟨g, 0, none⟩) N N] 24) = W1 at *
    generalize w1.heap.size = M at *
    go_wp2
    go_loopg [6] R (fun gg s wr => ∃ (k : Nat) (f : Nat → Nat), k ≤ R ∧ gg = R - k ∧ s = .int .i64 k ∧ Hid (∀ p, f p = if p / R = p % R ∧ p / R < k then 4607182418800017408 else 0) ∧ OutS w wr w.heap.size M g R R N f)
    case atStart => exact ⟨0, fun _ => 0, Nat.zero_le _, rfl, rfl, fun p => by rw [if_neg (by omega)], OS⟩
    case round =>
      clear OS
      obtain ⟨k, f, hk, hgg, rfl, hv, OS⟩ := hrel
      have HG : Hid (gk = R - k) := hgg
      clear hgg
      obtain ⟨m0, m1, m2, _⟩ := id OS.mbox
      by_cases hlt : k < R
      · have j1 : (k : Int) < (R : Int) := by omega
        have hqN : k * R + k < N := by rw [← HN.out]; exact at_lt hlt hlt
        have hm4 := mul48 (show k ≤ 48 by omega) hR
        have HNX : Hid (∀ p, (if p = k * R + k then 4607182418800017408 else f p) = if p / R = p % R ∧ p / R < k + 1 then 4607182418800017408 else 0) := fun p => by
          by_cases h : p = k * R + k
          · rw [if_pos h]
            have := (id_place hlt).1 h
            rw [if_pos (by omega)]
          · rw [if_neg h, hv.out p]
            have h2 : ¬ (p / R = k ∧ p % R = k) := fun e => h ((id_place hlt).2 e)
            by_cases h3 : p / R = p % R ∧ p / R < k
            · rw [if_pos h3, if_pos (by omega)]
            · rw [if_neg h3, if_neg (by omega)]
        have g2 := World.rowIs.cell OS.row hqN
        have g3 := World.rowIs.frozen OS.row (k * R + k)
        obtain ⟨e, he⟩ : ∃ e, k * R = e := ⟨_, rfl⟩
        have eI : (k : Int) * (R : Int) = (e : Int) := by rw [mulI, he]
        have OS3 := OS.set (k * R + k) 4607182418800017408
        rw [he] at hqN g2 g3 hm4 HNX OS3
        have hqI : (e : Int) + (k : Int) < (N : Int) := by omega
        have n1 : ((e : Int) + (k : Int)).toNat = e + k := by omega
        clear he hv OS
        go_wp2
        go_roundg (R - (k + 1))
        case measure => rw [HG.out]; omega
        case rel => exact ⟨k + 1, _, by omega, rfl, by go_num, HNX, OS3⟩
      · have ek : k = R := by omega
        subst ek
        have j1 : ¬ (k : Int) < (k : Int) := by omega
        obtain ⟨t0, t1, t2, s0, s1, s2, _⟩ := id OS.res
        have hfin := OS.gave (o := idO) HN.out (fun p hp => by
          have := (div_lt' (R := k) (C := k) (by rw [HN.out]; exact hp)).1
          rw [hv.out p]
          unfold idO
          by_cases h : p / k = p % k
          · rw [if_pos h, if_pos ⟨h, this⟩]; exact ⟨by omega, rfl⟩
          · rw [if_neg h, if_neg (fun e => h e.1)]; exact ⟨by omega, rfl⟩)
        clear hv
        go_wp2
        exact bodyPost_ret (v := .tuple #[mxV k k (some ⟨g, 0, none⟩) N N, .int .i64 0]) (by simp [results, Try.results23, go_sem, t0, t1, t2]) rfl ⟨_, rfl, hfin _ _ _⟩
end Go.Proofs.Ytnbdhbmiiplmbaa

namespace Go.Proofs.Ytnbdhbmiiplmbaa
open Go.RowKit

theorem sameB_me' (a : Nat) : sameB a a = true := by unfold sameB; cases nanB a <;> simp
theorem B3.quiet {w : World} {b : Nat} {x y z : Value} (h : B3 w b x y z) (n : Nat) : B3 (w.drewN n) b x y z := h.below (below_drewN (Below.refl _ _) n)
set_option maxRecDepth 100000 in
set_option maxHeartbeats 2000000 in
theorem rsameM_any (r c : Int) (xs : List Nat) (r2 c2 : Int) (ys : List Nat) (ao bo : Option Addr) (cap cap2 : Nat) (w : World) (hr : GRow w ao xs) (hs : GRow w bo ys) (hF : FW xs) (hG : FW ys) (hn : xs.length ≤ 17592186044416) :
    Calls Try.prog 26 #[mxV r c ao xs.length cap, mxV r2 c2 bo ys.length cap2] w fun e w' => e = .returned (.bool (sameM r c xs r2 c2 ys)) ∧ Below w.heap.size w w' := by
  have hb : ∀ o p, Below w.heap.size w ((w.alloc o).alloc p) := fun o p => old_two (Below.refl _ _)
  unfold sameM alikeM
  by_cases h1 : r = r2
  case neg =>
    rw [decide_eq_false h1, Bool.false_and, Bool.false_and]
    have b1 : (r != r2) = true := by simp [h1]
    clear h1
    go_enter Try.func26, Try.ntmps26
    go_wp2
    go_ret
    exact ⟨rfl, hb _ _⟩
  by_cases h2 : c = c2
  case neg =>
    rw [decide_eq_false h2, Bool.and_false, Bool.false_and]
    have b1 : (r != r2) = false := by simp [h1]
    have b2 : (c != c2) = true := by simp [h2]
    clear h1 h2
    go_enter Try.func26, Try.ntmps26
    go_wp2
    go_ret
    exact ⟨rfl, hb _ _⟩
  rw [decide_eq_true h1, decide_eq_true h2, Bool.true_and, Bool.true_and]
  have b1 : (r != r2) = false := by simp [h1]
  have b2 : (c != c2) = false := by simp [h2]
  clear h1 h2
  by_cases hl : xs.length = ys.length
  case neg =>
    rw [sameL_len hl]
    have b3 : ((xs.length : Int) != (ys.length : Int)) = true := by simp; omega
    clear hl
    go_enter Try.func26, Try.ntmps26
    go_wp2
    go_ret
    exact ⟨rfl, hb _ _⟩
  have b3 : ((xs.length : Int) != (ys.length : Int)) = false := by simp; omega
  have HL : Hid (ys.length = xs.length) := hl.symm
  have HY : Hid ((∀ j, j < xs.length → sameB (xs.getD j 0) (ys.getD j 0) = true) → sameL xs ys = true) := sameL_yes hl
  have HX : Hid (∀ j, j < xs.length → sameB (xs.getD j 0) (ys.getD j 0) = false → sameL xs ys = false) := fun j h1 h2 => sameL_not h1 h2
  clear hl
  obtain ⟨q, hq⟩ : ∃ q, sameL xs ys = q := ⟨_, rfl⟩
  rw [hq]
  have HQ : Hid (sameL xs ys = q) := hq
  clear hq
  go_enter Try.func26, Try.ntmps26
  go_upto_region 3 with fail
  have MA := ((B3.new w (.int .i64 r) (.int .i64 c) (.slice ao xs.length cap) 24).alloc (.cells #[.int .i64 r2, .int .i64 c2, .slice bo ys.length cap2] 24))
  have MB := (B3.newAt (w := w.alloc (.cells #[.int .i64 r, .int .i64 c, .slice ao xs.length cap] 24)) (n := w.heap.size + 1) (by go_simp) (.int .i64 r2) (.int .i64 c2) (.slice bo ys.length cap2) 24)
  have HB := hb (.cells #[.int .i64 r, .int .i64 c, .slice ao xs.length cap] 24) (.cells #[.int .i64 r2, .int .i64 c2, .slice bo ys.length cap2] 24)
  generalize (w.alloc (.cells #[.int .i64 r, .int .i64 c, .slice ao xs.length cap] 24)).alloc (.cells #[.int .i64 r2, .int .i64 c2, .slice bo ys.length cap2] 24) = W at *
  clear hb
  go_wp2
  go_loopg [5] xs.length (fun g i wr => ∃ k : Nat, k ≤ xs.length ∧ g = xs.length - k ∧ i = .int .i64 k ∧ Hid (∀ j, j < k → sameB (xs.getD j 0) (ys.getD j 0) = true) ∧ B3 wr w.heap.size (.int .i64 r) (.int .i64 c) (.slice ao xs.length cap) ∧ B3 wr (w.heap.size + 1) (.int .i64 r2) (.int .i64 c2) (.slice bo ys.length cap2) ∧ Below w.heap.size w wr)
  case atStart => exact ⟨0, Nat.zero_le _, rfl, rfl, fun j hj => by omega, MA, MB, HB⟩
  case round =>
    clear MA MB HB
    obtain ⟨k, hk, hg, rfl, hN, MA, MB, HB⟩ := hrel
    have HG : Hid (gk = xs.length - k) := hg
    clear hg
    obtain ⟨a0, a1, a2, _⟩ := id MA
    obtain ⟨d0, d1, d2, _⟩ := id MB
    by_cases hlt : k < xs.length
    · rcases hr.below HB with h | ⟨b, off, rfl, hc⟩
      · omega
      rcases hs.below HB with h | ⟨e2, off2, rfl, hd⟩
      · have := HL.out; omega
      have hlt2 : k < ys.length := by have := HL.out; omega
      have g1 := hc k hlt
      have g2 := hd k hlt2
      have hx := hF.at hlt
      have hy := hG.at hlt2
      have H0 := HX.out k hlt
      have HS : Hid (sameB (xs.getD k 0) (ys.getD k 0) = true → ∀ j, j < k + 1 → sameB (xs.getD j 0) (ys.getD j 0) = true) := fun h j hj => by
        by_cases e : j = k
        · subst e; exact h
        · exact hN.out j (by omega)
      have i1 : (k : Int) < (xs.length : Int) := by omega
      have i2 : (k : Int) < (ys.length : Int) := by omega
      generalize xs.getD k 0 = x at *
      generalize ys.getD k 0 = y at *
      have cs := fun w => mref_same x y hx hy w
      clear hc hd hlt2
      cases hq2 : sameB x y
      · rw [hq2] at cs
        have HZ : Hid (false = q) := (show false = q by rw [← HQ.out, H0 hq2])
        clear H0 hN
        go_wp2
        go_quiet ((go_at_call 62; exact Calls.quiet_of_same (cs _)))
        go_wp2
        go_ret
        exact ⟨end_bool HZ.out, below_drewN HB _⟩
      · rw [hq2] at cs
        clear H0
        go_wp2
        go_quiet ((go_at_call 62; exact Calls.quiet_of_same (cs _)))
        go_wp2
        go_roundg (xs.length - (k + 1))
        case measure => rw [HG.out]; omega
        case rel => exact ⟨k + 1, by omega, rfl, by go_num, HS.out hq2, MA.quiet _, MB.quiet _, below_drewN HB _⟩
    · have hY := HY.out (fun j hj => hN.out j (by omega))
      have HZ : Hid (true = q) := (show true = q by rw [← HQ.out, hY])
      clear hY
      have i1 : ¬ (k : Int) < (xs.length : Int) := by omega
      clear hN
      go_wp2
      go_ret
      exact ⟨end_bool HZ.out, HB⟩
/-- Symmetric, by the places below the diagonal. -/
theorem sym_low {R : Nat} {xs : List Nat} (h : ∀ i j, i < R → j < i → sameB (xs.getD (i * R + j) 0) (xs.getD (j * R + i) 0) = true) : ((List.range (R * R)).all fun p => sameB (xs.getD p 0) (xs.getD ((p % R) * R + p / R) 0)) = true := by
  rw [List.all_eq_true]
  intro p hp
  have hp := List.mem_range.1 hp
  obtain ⟨h1, h2⟩ := div_lt' hp
  have e : p / R * R + p % R = p := by rw [Nat.mul_comm]; exact Nat.div_add_mod p R
  generalize p / R = i at *
  generalize p % R = j at *
  subst e
  rcases Nat.lt_trichotomy i j with g | g | g
  · rw [← h j i h2 g]
    unfold sameB
    cases ha : nanB (xs.getD (i * R + j) 0) <;> cases hb : nanB (xs.getD (j * R + i) 0)
    · simp only [Bool.false_eq_true, if_false]
      exact decide_eq_decide.2 ⟨Eq.symm, Eq.symm⟩
    · simp only [Bool.false_eq_true, if_false, if_true]
      exact decide_eq_false (fun e => by rw [e] at ha; rw [ha] at hb; cases hb)
    · simp only [Bool.false_eq_true, if_false, if_true]
      exact (decide_eq_false (fun e => by rw [e] at hb; rw [ha] at hb; cases hb)).symm
    · rfl
  · subst g; exact sameB_me' _
  · exact h i j h1 g
theorem sym_not {R : Nat} {xs : List Nat} {i j : Nat} (hi : i < R) (hj : j < R) (h : sameB (xs.getD (i * R + j) 0) (xs.getD (j * R + i) 0) = false) : ((List.range (R * R)).all fun p => sameB (xs.getD p 0) (xs.getD ((p % R) * R + p / R) 0)) = false := by
  rw [List.all_eq_false]
  refine ⟨i * R + j, List.mem_range.2 (at_lt hi hj), ?_⟩
  rw [(at_div hj).1, (at_div hj).2, h]
  simp
set_option maxRecDepth 100000 in
set_option maxHeartbeats 2000000 in
theorem rsym_any (r c : Int) (xs : List Nat) (ao : Option Addr) (cap : Nat) (w : World) (hr : GRow w ao xs) (hF : FW xs) :
    Calls Try.prog 27 #[mxV r c ao xs.length cap] w fun e w' => e = .returned (.bool (symM r c xs)) ∧ Below w.heap.size w w' := by
  have c1 := fun w => rright_any r c ao xs.length cap w
  unfold symM
  cases q1 : rightM r c xs.length
  · rw [q1] at c1
    rw [Bool.false_and, Bool.false_and]
    generalize xs.length = n at *
    go_enter Try.func27, Try.ntmps27
    go_wp2_with (go_at_call 24; refine (c1 _).mono ?_; rintro e w1 ⟨rfl, b1⟩; have bb := old_one b1)
    go_ret
    exact ⟨rfl, bb⟩
  rw [q1] at c1
  obtain ⟨R, C, rfl, rfl, hR, hC, hl⟩ := rightM_nat q1
  rw [Bool.true_and]
  clear q1
  by_cases hRC : R = C
  case neg =>
    rw [decide_eq_false (by omega : ¬ (R : Int) = (C : Int)), Bool.false_and]
    have b9 : ((R : Int) != (C : Int)) = true := by simp; omega
    clear hl hRC
    generalize xs.length = n at *
    go_enter Try.func27, Try.ntmps27
    go_wp2_with (go_at_call 24; refine (c1 _).mono ?_; rintro e w1 ⟨rfl, b1⟩; have bb := old_one b1; obtain ⟨a0, a1, a2, _⟩ := (B3.new _ _ _ _ _).below b1)
    go_ret
    exact ⟨rfl, bb⟩
  subst hRC
  rw [decide_eq_true rfl, Bool.true_and]
  simp only [Int.toNat_natCast]
  have HX : Hid (xs.length = R * R) := hl
  clear hl
  obtain ⟨q, hq⟩ : ∃ q, ((List.range (R * R)).all fun p => sameB (xs.getD p 0) (xs.getD ((p % R) * R + p / R) 0)) = q := ⟨_, rfl⟩
  rw [hq]
  have HQ : Hid (((List.range (R * R)).all fun p => sameB (xs.getD p 0) (xs.getD ((p % R) * R + p / R) 0)) = q) := hq
  clear hq
  have b9 : ((R : Int) != (R : Int)) = false := by simp
  obtain ⟨n, hn⟩ : ∃ n, xs.length = n := ⟨_, rfl⟩
  have HXn : Hid (xs.length = n) := hn
  rw [hn] at c1 ⊢
  clear hn
  go_enter Try.func27, Try.ntmps27
  go_upto_region 3 with (go_at_call 24; refine (c1 _).mono ?_; rintro e w1 ⟨rfl, b1⟩; have bb := old_one b1; have MA := (B3.new _ _ _ _ _).below b1; obtain ⟨a0, a1, a2, _⟩ := id MA)
  clear a0 a1 a2 b1 c1
  go_wp2
  go_loopg [3] R (fun g s wr => ∃ i : Nat, i ≤ R ∧ g = R - i ∧ s = .int .i64 i ∧ Hid (∀ a b, a < i → b < a → sameB (xs.getD (a * R + b) 0) (xs.getD (b * R + a) 0) = true) ∧ B3 wr w.heap.size (.int .i64 R) (.int .i64 R) (.slice ao n cap) ∧ Below w.heap.size w wr)
  case atStart => exact ⟨0, Nat.zero_le _, rfl, rfl, fun a b h => by omega, MA, bb⟩
  case round =>
    clear MA bb
    obtain ⟨i, hi, hg, rfl, hv, MA, HB⟩ := hrel
    have HG : Hid (gk = R - i) := hg
    clear hg
    have a0 := MA.1
    by_cases hlt : i < R
    · have j1 : (i : Int) < (R : Int) := by omega
      go_wp2
      go_loopg [4] i (fun g s wr => ∃ j : Nat, j ≤ i ∧ g = i - j ∧ s = .int .i64 j ∧ Hid (∀ b, b < j → sameB (xs.getD (i * R + b) 0) (xs.getD (b * R + i) 0) = true) ∧ B3 wr w.heap.size (.int .i64 R) (.int .i64 R) (.slice ao n cap) ∧ Below w.heap.size w wr)
      case atStart => exact ⟨0, Nat.zero_le _, rfl, rfl, fun b h => by omega, MA, HB⟩
      case round =>
        clear MA HB a0
        obtain ⟨j, hj, hg, rfl, hu, MA, HB⟩ := hrel
        have HG2 : Hid (gk = i - j) := hg
        clear hg
        by_cases hlt2 : j < i
        · have j2 : (j : Int) < (i : Int) := by omega
          have hp : i * R + j < xs.length := by rw [HX.out]; exact at_lt hlt (by omega)
          have hq : j * R + i < xs.length := by rw [HX.out]; exact at_lt (by omega) hlt
          have ce := fun W h => rat_any xs R R i j (i * R + j) n cap ao W h (by omega) hR (by omega) rfl hp HXn.out
          have cf := fun W h => rat_any xs R R j i (j * R + i) n cap ao W h (by omega) hR (by omega) rfl hq HXn.out
          have hx := hF.at hp
          have hy := hF.at hq
          have HF0 : Hid (sameB (xs.getD (i * R + j) 0) (xs.getD (j * R + i) 0) = false → false = q) := fun h => by rw [← HQ.out]; exact (sym_not hlt (by omega) h).symm
          have HF1 : Hid (sameB (xs.getD (i * R + j) 0) (xs.getD (j * R + i) 0) = true → ∀ b, b < j + 1 → sameB (xs.getD (i * R + b) 0) (xs.getD (b * R + i) 0) = true) := fun h b hb => by
            by_cases e : b = j
            · subst e; exact h
            · exact hu.out b (by omega)
          generalize xs.getD (i * R + j) 0 = x at *
          generalize xs.getD (j * R + i) 0 = y at *
          have cs := fun w => mref_same x y hx hy w
          have hne : Nonempty (LOf wr) := LOf.any _
          have k0 : ∀ u : LOf wr, u.val.cell? ⟨w.heap.size, 0, none⟩ = some (.int .i64 R) := fun u => u.cell MA.1
          have k1 : ∀ u : LOf wr, u.val.cell? ⟨w.heap.size, 1, none⟩ = some (.int .i64 R) := fun u => u.cell MA.2.1
          have k2 : ∀ u : LOf wr, u.val.cell? ⟨w.heap.size, 2, none⟩ = some (.slice ao n cap) := fun u => u.cell MA.2.2.1
          have kr : ∀ u : LOf wr, GRow u.val ao xs := fun u => u.row (hr.below HB)
          clear hp hq hu hv
          cases hq2 : sameB x y
          · rw [hq2] at cs
            have HZ := HF0.out hq2
            have HZ2 : Hid (false = q) := HZ
            clear HZ
            go_wp2
            refine region_later (by kernel_rfl) (by kernel_rfl) ?_
            repeat (quiet_step (first | (go_at_call 62; exact later_same (cs _)) | (go_at_call 63; first | with_reducible exact later_of (ce _ (kr _)) | with_reducible exact later_of (cf _ (kr _)))))
            refine wpQuiet_nil ?_
            intro w' hw'
            obtain ⟨u, rfl⟩ := hw'
            have hbu := HB.trans (u.below.mono HB.size)
            go_wp2
            go_ret
            exact ⟨end_bool HZ2.out, hbu⟩
          · rw [hq2] at cs
            go_wp2
            refine region_later (by kernel_rfl) (by kernel_rfl) ?_
            repeat (quiet_step (first | (go_at_call 62; exact later_same (cs _)) | (go_at_call 63; first | with_reducible exact later_of (ce _ (kr _)) | with_reducible exact later_of (cf _ (kr _)))))
            refine wpQuiet_nil ?_
            intro w' hw'
            obtain ⟨u, rfl⟩ := hw'
            have hbu := HB.trans (u.below.mono HB.size)
            have MAu := MA.below u.below
            have HF2 : Hid (∀ b, b < j + 1 → sameB (xs.getD (i * R + b) 0) (xs.getD (b * R + i) 0) = true) := HF1.out hq2
            clear HF1 HF0
            go_wp2
            go_roundg (i - (j + 1))
            case measure => rw [HG2.out]; omega
            case rel => exact ⟨j + 1, by omega, rfl, by go_num, HF2, MAu, hbu⟩
        · have ej : j = i := by omega
          subst ej
          have j2 : ¬ (j : Int) < (j : Int) := by omega
          have HV : Hid (∀ a b, a < j + 1 → b < a → sameB (xs.getD (a * R + b) 0) (xs.getD (b * R + a) 0) = true) := fun a b ha hb => by
            by_cases e : a = j
            · subst e; exact hu.out b hb
            · exact hv.out a b (by omega) hb
          clear hu hv
          go_wp2
          go_roundg (R - (j + 1))
          case measure => rw [HG.out]; omega
          case rel => exact ⟨j + 1, by omega, rfl, by go_num, HV, MA, HB⟩
    · have ei : i = R := by omega
      subst ei
      have j1 : ¬ (i : Int) < (i : Int) := by omega
      have HZ : Hid (true = q) := (show true = q by rw [← HQ.out]; exact (sym_low (fun a b h1 h2 => hv.out a b h1 h2)).symm)
      clear hv
      go_wp2
      go_ret
      exact ⟨end_bool HZ.out, HB⟩
end Go.Proofs.Ytnbdhbmiiplmbaa

namespace Go.Proofs.Ytnbdhbmiiplmbaa
open Go.RowKit

theorem col_eq {R a b i j : Nat} (ha : a < R) (hi : i < R) (h : b * R + a = j * R + i) : b = j ∧ a = i := by
  have h1 := (at_div (C := R) (i := b) (j := a) ha)
  have h2 := (at_div (C := R) (i := j) (j := i) hi)
  rw [h] at h1
  omega
set_option maxRecDepth 100000 in
set_option maxHeartbeats 4000000 in
theorem rtrans_any (r c : Int) (xs : List Nat) (ao : Option Addr) (cap : Nat) (w : World) (hr : GRow w ao xs) (hF : FW xs) :
    Calls Try.prog 29 #[mxV r c ao xs.length cap] w fun e w' => GaveA w (trA r c xs) e w' := by
  have c1 := fun w => rright_any r c ao xs.length cap w
  unfold trA
  cases q1 : rightM r c xs.length
  · rw [q1] at c1
    rw [if_neg (by decide)]
    generalize xs.length = n at *
    go_enter Try.func29, Try.ntmps29
    go_wp2_with (go_at_call 24; refine (c1 _).mono ?_; rintro e w1 ⟨rfl, b1⟩; obtain ⟨t0, t1, t2, s0, s1, s2, _⟩ := (B3.newAt (n := w.heap.size + 1) (by go_simp) _ _ _ _).below b1)
    exact bodyPost_ret (v := .tuple #[.agg #[.int .i64 0, .int .i64 0, .slice none 0 0], .int .i64 4]) (by simp [results, Try.results29, go_sem, t0, t1, t2]) rfl ⟨_, rfl, GaveF.none_put (old_two b1) (by omega) _ _ _⟩
  rw [q1] at c1
  obtain ⟨R, C, rfl, rfl, hR, hC, hl⟩ := rightM_nat q1
  rw [if_pos rfl]
  simp only [Int.toNat_natCast]
  obtain ⟨N, hN⟩ : ∃ N, C * R = N := ⟨_, rfl⟩
  have cmk := fun W => rmake_R C R N hC hR hN W
  have hNb : N ≤ 2304 := by rw [← hN]; exact mul48 hC hR
  have HN : Hid (C * R = N) := hN
  have HX : Hid (xs.length = R * C) := hl
  have hst := vstoref Try.prog
  clear hN hl q1
  obtain ⟨n, hn⟩ : ∃ n, xs.length = n := ⟨_, rfl⟩
  have HXn : Hid (xs.length = n) := hn
  rw [hn] at c1 ⊢
  clear hn
  go_enter Try.func29, Try.ntmps29
  go_upto_region 4 with (first
    | (go_at_call 24; refine (c1 _).mono ?_; rintro e w1 ⟨rfl, b1⟩; have bb := old_two b1; have MA := ((B3.new _ _ _ _ _).alloc _).below b1; have RB := (B3.newAt (n := w.heap.size + 1) (by go_simp) _ _ _ _).below b1; have a0 := MA.1; have a1 := MA.2.1; have a2 := MA.2.2.1; have hlt := RB.2.2.2.2.2.2)
    | (go_at_call 22; refine (cmk _).mono ?_; rintro e w3 ⟨g, rfl, hrow, hg1, hg2, b3⟩))
  have hb3 := bb.trans (b3.mono bb.size)
  have OS : OutS w (w3.alloc (.cells #[.int .i64 C, .int .i64 R, .slice (some ⟨g, 0, none⟩) N N] 24)) (w.heap.size + 1) w3.heap.size g C R N (fun _ => 0) :=
    ⟨(RB.below b3).alloc _, B3.new _ _ _ _ _, hrow.below (below_one _ _) hg2, ⟨by omega, by omega, hg2, by simp; omega⟩, hb3.alloc hb3.size _⟩
  replace MA := (MA.below b3).alloc (.cells #[.int .i64 C, .int .i64 R, .slice (some ⟨g, 0, none⟩) N N] 24)
  have hAg : w.heap.size ≠ g := by omega
  clear a0 a1 a2 hlt bb b1 b3 hrow hg1 hg2 RB hb3 c1 cmk
  generalize w3.alloc (.cells #[.int .i64 C, .int .i64 R, .slice (some ⟨g, 0, none⟩) N N] 24) = wS at *
  generalize w3.heap.size = M at *
  go_wp2
  go_loopg [6] R (fun gg s wr => ∃ (i : Nat) (f : Nat → Nat), i ≤ R ∧ gg = R - i ∧ s = .int .i64 i ∧ Hid (∀ a b, a < i → b < C → NR (enO C xs a b) (f (b * R + a))) ∧ OutS w wr (w.heap.size + 1) M g C R N f ∧ B3 wr w.heap.size (.int .i64 R) (.int .i64 C) (.slice ao n cap))
  case atStart => exact ⟨0, fun _ => 0, Nat.zero_le _, rfl, rfl, fun a b h => by omega, OS, MA⟩
  case round =>
    clear OS MA
    obtain ⟨i, f, hi, hgg, rfl, hv, OS, MA⟩ := hrel
    have HG : Hid (gk = R - i) := hgg
    clear hgg
    have a0 := MA.1
    by_cases hlt : i < R
    · have j1 : (i : Int) < (R : Int) := by omega
      go_wp2
      go_loopg [7] C (fun gg s wr => ∃ (j : Nat) (f : Nat → Nat), j ≤ C ∧ gg = C - j ∧ s = .int .i64 j ∧ Hid (∀ a b, (a < i ∧ b < C ∨ a = i ∧ b < j) → NR (enO C xs a b) (f (b * R + a))) ∧ OutS w wr (w.heap.size + 1) M g C R N f ∧ B3 wr w.heap.size (.int .i64 R) (.int .i64 C) (.slice ao n cap))
      case atStart => exact ⟨0, f, Nat.zero_le _, rfl, rfl, fun a b h => hv.out a b (by omega) (by omega), OS, MA⟩
      case round =>
        clear OS MA hv f a0
        obtain ⟨j, f, hj, hgg, rfl, hv, OS, MA⟩ := hrel
        have HG2 : Hid (gk = C - j) := hgg
        clear hgg
        obtain ⟨a0, a1, a2, _⟩ := id MA
        obtain ⟨m0, m1, m2, _⟩ := id OS.mbox
        by_cases hlt2 : j < C
        · have j2 : (j : Int) < (C : Int) := by omega
          have hp : i * C + j < xs.length := by rw [HX.out]; exact at_lt hlt hlt2
          have ce := fun W h => rat_any xs R C i j (i * C + j) n cap ao W h (by omega) hC (by omega) rfl hp HXn.out
          have hqN : j * R + i < N := by rw [← HN.out]; exact at_lt hlt2 hlt
          have hm4 := mul48 (show j ≤ 48 by omega) hR
          have hxx := toO_NR (hF.at hp)
          have HNX : Hid (∀ a b, (a < i ∧ b < C ∨ a = i ∧ b < j + 1) → NR (enO C xs a b) (if b * R + a = j * R + i then xs.getD (i * C + j) 0 else f (b * R + a))) := fun a b h => by
            by_cases e : b * R + a = j * R + i
            · obtain ⟨rfl, rfl⟩ := col_eq (by omega) hlt e
              rw [if_pos rfl]
              exact hxx
            · rw [if_neg e]
              refine hv.out a b ?_
              rcases h with h | ⟨h1, h2⟩
              · exact Or.inl h
              · refine Or.inr ⟨h1, ?_⟩
                rcases Nat.lt_or_ge b j with h3 | h3
                · exact h3
                · exact absurd (by rw [h1, show b = j by omega]) e
          generalize xs.getD (i * C + j) 0 = x at *
          obtain ⟨e, he⟩ : ∃ e, j * R = e := ⟨_, rfl⟩
          have eI : (j : Int) * (R : Int) = (e : Int) := by rw [mulI, he]
          rw [he] at hqN hm4 HNX
          have hqI : (e : Int) + (i : Int) < (N : Int) := by omega
          have n1 : ((e : Int) + (i : Int)).toNat = e + i := by omega
          have n0 : (0 : Int) ≤ (e : Int) + (i : Int) := by omega
          have eW : IntKind.i64.wrap ((j : Int) * (R : Int)) = (e : Int) := by rw [IntKind.wrap_i64, eI]; omega
          have eW2 : IntKind.i64.wrap ((e : Int) + (i : Int)) = (e : Int) + (i : Int) := by rw [IntKind.wrap_i64]; omega
          have eW0 : IntKind.i64.wrap (e : Int) = (e : Int) := by rw [IntKind.wrap_i64]; omega
          have hr' : GRow wr.drew ao xs := hr.below OS.below.drew
          have OSd := OS.drew
          have ha := MA.drew
          have HC : ∀ w1, Below wr.drew.heap.size wr.drew w1 → (w1.cell? ⟨w.heap.size, 0, none⟩ = some (.int .i64 R) ∧ w1.cell? ⟨w.heap.size, 1, none⟩ = some (.int .i64 C) ∧ w1.cell? ⟨w.heap.size, 2, none⟩ = some (.slice ao n cap)) ∧ (w1.cell? ⟨M, 0, none⟩ = some (.int .i64 C) ∧ w1.cell? ⟨M, 1, none⟩ = some (.int .i64 R) ∧ w1.cell? ⟨M, 2, none⟩ = some (.slice (some ⟨g, 0, none⟩) N N)) := fun w1 hb => by
            obtain ⟨x0, x1, x2, _⟩ := ha.below hb
            obtain ⟨y0, y1, y2, _⟩ := OSd.mbox.below hb
            exact ⟨⟨x0, x1, x2⟩, y0, y1, y2⟩
          have m9 := HC _ (Below.refl _ _)
          have lo9 := OS.lo
          have z1 : ¬ w.heap.size = g := hAg
          have z2 : ¬ g = w.heap.size := fun h => hAg h.symm
          have z3 : ¬ M = g := by omega
          have z4 : ¬ g = M := by omega
          clear lo9
          clear hp hv hxx he
          go_wp2
          go_region_held3 (fun w' => (w'.cell? ⟨w.heap.size, 0, none⟩ = some (.int .i64 R) ∧ w'.cell? ⟨w.heap.size, 1, none⟩ = some (.int .i64 C) ∧ w'.cell? ⟨w.heap.size, 2, none⟩ = some (.slice ao n cap)) ∧ (w'.cell? ⟨M, 0, none⟩ = some (.int .i64 C) ∧ w'.cell? ⟨M, 1, none⟩ = some (.int .i64 R) ∧ w'.cell? ⟨M, 2, none⟩ = some (.slice (some ⟨g, 0, none⟩) N N))) (go_keep)
            (first | (go_at_call 63; refine (ce _ hr').mono ?_; rintro e9 w2 ⟨rfl, b2⟩; have m2' := HC _ b2; have OS2 := OSd.later b2; have MA2 := ha.below b2; have g2 := World.rowIs.cell OS2.row hqN; have g3 := World.rowIs.frozen OS2.row (e + i)))
          have OS3 := OS2.set (e + i) x
          have MA3 := MA2.far (c := g) (o := e + i) (fun h => hAg h.symm) (.float .f64 x)
          go_wp2
          go_roundg (C - (j + 1))
          case measure => rw [HG2.out]; omega
          case rel => exact ⟨j + 1, _, by omega, rfl, by go_num, HNX, OS3, MA3⟩
        · have ej : j = C := by omega
          subst ej
          have j2 : ¬ (j : Int) < (j : Int) := by omega
          have HV : Hid (∀ a b, a < i + 1 → b < j → NR (enO j xs a b) (f (b * R + a))) := fun a b ha hb => hv.out a b (by omega)
          clear hv
          go_wp2
          go_roundg (R - (i + 1))
          case measure => rw [HG.out]; omega
          case rel => exact ⟨i + 1, f, by omega, rfl, by go_num, HV, OS, MA⟩
    · have ei : i = R := by omega
      subst ei
      have j1 : ¬ (i : Int) < (i : Int) := by omega
      obtain ⟨m0, m1, m2, _⟩ := id OS.mbox
      obtain ⟨t0, t1, t2, s0, s1, s2, _⟩ := id OS.res
      have hfin := OS.gave (o := fun a b => enO C xs b a) HN.out (fun p hp => by
        obtain ⟨h1, h2⟩ := div_lt' (R := C) (C := i) (by rw [HN.out]; exact hp)
        have e : p / i * i + p % i = p := by rw [Nat.mul_comm]; exact Nat.div_add_mod p i
        have := hv.out (p % i) (p / i) h2 h1
        rw [e] at this
        exact this)
      clear hv
      go_wp2
      exact bodyPost_ret (v := .tuple #[mxV C i (some ⟨g, 0, none⟩) N N, .int .i64 0]) (by simp [results, Try.results29, go_sem, t0, t1, t2]) rfl ⟨_, rfl, hfin _ _ _⟩
end Go.Proofs.Ytnbdhbmiiplmbaa

namespace Go.Proofs.Ytnbdhbmiiplmbaa
open Go.RowKit

set_option maxRecDepth 100000 in
set_option maxHeartbeats 4000000 in
theorem rsub_R (R C : Nat) (xs ys : List Nat) (ao bo : Option Addr) (cap cap2 : Nat) (w : World) (hr : GRow w ao xs) (hs : GRow w bo ys) (hF : FW xs) (hG : FW ys) (hl : xs.length = R * C) (hm : ys.length = R * C) (hR : R ≤ 48) (hC : C ≤ 48) :
    Calls Try.prog 31 #[mxV R C ao xs.length cap, mxV R C bo ys.length cap2] w fun e w' => GaveA w ⟨R, C, tabM R C (fun i j => opO .sub (enO C xs i j) (enO C ys i j)), 0⟩ e w' := by
  have c1 := fun w => rright_any R C ao xs.length cap w
  have c2' := fun w => rright_any R C bo ys.length cap2 w
  rw [hl, rightM_yes hR hC, ← hl] at c1
  rw [hm, rightM_yes hR hC, ← hm] at c2'
  obtain ⟨N, hN⟩ : ∃ N, R * C = N := ⟨_, rfl⟩
  have cmk := fun W => rmake_R R C N hR hC hN W
  have hNb : N ≤ 2304 := by rw [← hN]; exact mul48 hR hC
  have HN : Hid (R * C = N) := hN
  obtain ⟨n, hn⟩ : ∃ n, xs.length = n := ⟨_, rfl⟩
  obtain ⟨m, hm'⟩ : ∃ m, ys.length = m := ⟨_, rfl⟩
  have HXn : Hid (xs.length = n) := hn
  have HYm : Hid (ys.length = m) := hm'
  have HnN : Hid (n = N ∧ m = N) := ⟨by omega, by omega⟩
  have hn48 : n ≤ 2304 := by omega
  rw [hn] at c1 ⊢
  rw [hm'] at c2' ⊢
  clear hn hm' hl hm hN
  have b9 : ((R : Int) != (R : Int)) = false := by simp
  have b10 : ((C : Int) != (C : Int)) = false := by simp
  have hst := vstoref Try.prog
  go_enter Try.func31, Try.ntmps31
  go_upto_region 4 with (first
    | (go_at_call_of 24 (Value.agg #[Value.int IntKind.i64 (R : Int), Value.int IntKind.i64 (C : Int), Value.slice ao n cap]); refine (c1 _).mono ?_; rintro e w1 ⟨rfl, b1⟩; have bb := old_three b1; have MA := (((B3.new _ _ _ _ _).alloc _).alloc _).below b1; have MB := ((B3.newAt (n := w.heap.size + 1) (by go_simp) _ _ _ _).alloc _).below b1; have RB := (B3.newAt (n := w.heap.size + 1 + 1) (by go_simp) _ _ _ _).below b1; have a0 := MA.1; have a1 := MA.2.1; have a2 := MA.2.2.1; have d0 := MB.1; have d1 := MB.2.1; have d2 := MB.2.2.1; obtain ⟨t0, t1, t2, s0, s1, s2, hlt⟩ := id RB)
    | (go_at_call_of 24 (Value.agg #[Value.int IntKind.i64 (R : Int), Value.int IntKind.i64 (C : Int), Value.slice bo m cap2]); refine (c2' _).mono ?_; rintro e w2 ⟨rfl, b2⟩; have ca := bb.trans (b2.mono bb.size); replace MA := MA.below b2; replace MB := MB.below b2; replace RB := RB.below b2; have a0 := MA.1; have a1 := MA.2.1; have a2 := MA.2.2.1; have d0 := MB.1; have d1 := MB.2.1; have d2 := MB.2.2.1; obtain ⟨t0, t1, t2, s0, s1, s2, hlt⟩ := id RB)
    | (go_at_call 22; refine (cmk _).mono ?_; rintro e w3 ⟨g, rfl, hrow, hg1, hg2, b3⟩))
  have hb3 := ca.trans (b3.mono ca.size)
  have OS : OutS w (w3.alloc (.cells #[.int .i64 R, .int .i64 C, .slice (some ⟨g, 0, none⟩) N N] 24)) (w.heap.size + 1 + 1) w3.heap.size g R C N (fun _ => 0) :=
    ⟨(RB.below b3).alloc _, B3.new _ _ _ _ _, hrow.below (below_one _ _) hg2, ⟨by omega, by omega, hg2, by simp; omega⟩, hb3.alloc hb3.size _⟩
  replace MA := (MA.below b3).alloc (.cells #[.int .i64 R, .int .i64 C, .slice (some ⟨g, 0, none⟩) N N] 24)
  replace MB := (MB.below b3).alloc (.cells #[.int .i64 R, .int .i64 C, .slice (some ⟨g, 0, none⟩) N N] 24)
  have hAg : w.heap.size + 1 < g := by omega
  clear a0 a1 a2 d0 d1 d2 t0 t1 t2 s0 s1 s2 hlt bb ca b1 b2 b3 hrow hg1 hg2 RB hb3 c1 c2' cmk
  generalize w3.alloc (.cells #[.int .i64 R, .int .i64 C, .slice (some ⟨g, 0, none⟩) N N] 24) = wS at *
  generalize w3.heap.size = M at *
  go_wp2
  go_loopg [8] n (fun gg s wr => ∃ (k : Nat) (f : Nat → Nat), k ≤ n ∧ gg = n - k ∧ s = .int .i64 k ∧ Hid (∀ p, p < k → NR (opO .sub (toO (xs.getD p 0)) (toO (ys.getD p 0))) (f p)) ∧ OutS w wr (w.heap.size + 1 + 1) M g R C N f ∧ B3 wr w.heap.size (.int .i64 R) (.int .i64 C) (.slice ao n cap) ∧ B3 wr (w.heap.size + 1) (.int .i64 R) (.int .i64 C) (.slice bo m cap2))
  case atStart => exact ⟨0, fun _ => 0, Nat.zero_le _, rfl, rfl, fun p hp => by omega, OS, MA, MB⟩
  case round =>
    clear OS MA MB
    obtain ⟨k, f, hk, hgg, rfl, hv, OS, MA, MB⟩ := hrel
    have HG : Hid (gk = n - k) := hgg
    clear hgg
    have a2 := MA.2.2.1
    by_cases hlt : k < n
    · have j1 : (k : Int) < (n : Int) := by omega
      have j2 : (k : Int) < (m : Int) := by have := HnN.out; omega
      have j3 : (k : Int) < (N : Int) := by have := HnN.out; omega
      have hkx : k < xs.length := by rw [HXn.out]; exact hlt
      have hky : k < ys.length := by have := HnN.out; rw [HYm.out]; omega
      have hkN : k < N := by have := HnN.out; omega
      rcases id hr with h | ⟨b, off, e1, hc0⟩
      · omega
      rcases id hs with h | ⟨b2, off2, e2, hd0⟩
      · omega
      subst e1 e2
      have lb := World.block_lt_of_cell? w _ (hc0 k hkx)
      have lb2 := World.block_lt_of_cell? w _ (hd0 k hky)
      have g1 : wr.drew.cell? ⟨b, off + k, none⟩ = some (.float .f64 (xs.getD k 0)) := by rw [OS.below.drew.cell lb]; exact hc0 k hkx
      have g2 : wr.drew.cell? ⟨b2, off2 + k, none⟩ = some (.float .f64 (ys.getD k 0)) := by rw [OS.below.drew.cell lb2]; exact hd0 k hky
      have HSU : Hid (∀ W, NR (opO .sub (toO (xs.getD k 0)) (toO (ys.getD k 0))) (opR .sub (xs.getD k 0) (ys.getD k 0) W)) := fun W => opO_NR opS (toO_NR (hF.at hkx)) (toO_NR (hG.at hky)) W
      have HNX : Hid (∀ q, NR (opO .sub (toO (xs.getD k 0)) (toO (ys.getD k 0))) q → ∀ p, p < k + 1 → NR (opO .sub (toO (xs.getD p 0)) (toO (ys.getD p 0))) (if p = k then q else f p)) := fun q hq p hp => by
        by_cases e : p = k
        · subst e; rw [if_pos rfl]; exact hq
        · rw [if_neg e]; exact hv.out p (by omega)
      have lb : b < w.heap.size := lb
      have lb2 : b2 < w.heap.size := lb2
      generalize xs.getD k 0 = x at *
      generalize ys.getD k 0 = y at *
      have lo9 := OS.lo
      have z1 : ¬ w.heap.size = g := by omega
      have z2 : ¬ g = w.heap.size := by omega
      have z3 : ¬ M = g := by omega
      have z4 : ¬ g = M := by omega
      have z5 : ¬ w.heap.size + 1 = g := by omega
      have z6 : ¬ g = w.heap.size + 1 := by omega
      have z7 : ¬ b = g := by omega
      have z8 : ¬ g = b := by omega
      have z9 : ¬ b2 = g := by omega
      have z10 : ¬ g = b2 := by omega
      have h1 := fun x y w => run_op4 (P := Try.prog) (op := .sub) opS 31 x y w
      have hop : ∀ W a, (opW .sub x y W).cell? a = W.cell? a := fun W a => by unfold World.cell?; rw [opW_heap]
      have hopf : ∀ W a, (opW .sub x y W).frozen? a = W.frozen? a := fun W a => by unfold World.frozen?; rw [opW_heap]
      have OSd := OS.drew
      have y2 := OSd.mbox.2.2.1
      have g4 := World.rowIs.cell OSd.row hkN
      have g5 := World.rowIs.frozen OSd.row k
      have p2 := MA.drew.2.2.1
      have q2 := MB.drew.2.2.1
      have hbo := opW_below .sub x y (Below.refl wr.drew.heap.size wr.drew)
      clear lo9 hc0 hd0 hkx hky hv
      go_wp2
      first | (go_region_held (fun w' => (w'.cell? ⟨w.heap.size, 2, none⟩ = some (.slice (some ⟨b, off, none⟩) n cap) ∧ w'.cell? ⟨w.heap.size + 1, 2, none⟩ = some (.slice (some ⟨b2, off2, none⟩) m cap2) ∧ w'.cell? ⟨M, 2, none⟩ = some (.slice (some ⟨g, 0, none⟩) N N) ∧ w'.cell? ⟨b, off + k, none⟩ = some (.float .f64 x) ∧ w'.cell? ⟨b2, off2 + k, none⟩ = some (.float .f64 y))) (go_keep) (fail)) | fail
      all_goals
        have OS3 := (OSd.later hbo).set k (opR .sub x y wr.drew)
        have MA3 := (MA.drew.below hbo).far (c := g) (o := k) (by omega) (.float .f64 (opR .sub x y wr.drew))
        have MB3 := (MB.drew.below hbo).far (c := g) (o := k) (by omega) (.float .f64 (opR .sub x y wr.drew))
        have HN3 := HNX.out _ (HSU.out wr.drew)
        have HN4 : Hid (∀ p, p < k + 1 → NR (opO .sub (toO (xs.getD p 0)) (toO (ys.getD p 0))) (if p = k then opR .sub x y wr.drew else f p)) := HN3
        clear HN3
        go_wp2
        go_roundg (n - (k + 1))
        case measure => rw [HG.out]; omega
        case rel => exact ⟨k + 1, _, by omega, rfl, by go_num, HN4, OS3, MA3, MB3⟩
    · have ek : k = n := by omega
      subst ek
      have j1 : ¬ (k : Int) < (k : Int) := by omega
      obtain ⟨m0, m1, m2, _⟩ := id OS.mbox
      obtain ⟨t0, t1, t2, s0, s1, s2, _⟩ := id OS.res
      have hfin := OS.gave (o := fun i j => opO .sub (enO C xs i j) (enO C ys i j)) HN.out (fun p hp => by
        have e : p / C * C + p % C = p := by rw [Nat.mul_comm]; exact Nat.div_add_mod p C
        have := hv.out p (by have := HnN.out; omega)
        unfold enO
        rw [e]
        exact this)
      clear hv
      go_wp2
      exact bodyPost_ret (v := .tuple #[mxV R C (some ⟨g, 0, none⟩) N N, .int .i64 0]) (by simp [results, Try.results31, go_sem, t0, t1, t2]) rfl ⟨_, rfl, hfin _ _ _⟩
set_option maxHeartbeats 2000000 in
theorem rsub_any' (r c : Int) (xs : List Nat) (r2 c2 : Int) (ys : List Nat) (ao bo : Option Addr) (cap cap2 : Nat) (w : World) (hr : GRow w ao xs) (hs : GRow w bo ys) (hF : FW xs) (hG : FW ys) :
    Calls Try.prog 31 #[mxV r c ao xs.length cap, mxV r2 c2 bo ys.length cap2] w fun e w' => GaveA w (sbA r c xs r2 c2 ys) e w' := by
  have c1 := fun w => rright_any r c ao xs.length cap w
  have c2' := fun w => rright_any r2 c2 bo ys.length cap2 w
  unfold sbA
  cases q1 : rightM r c xs.length
  · rw [q1] at c1
    rw [Bool.false_and, Bool.false_and, if_neg (by decide)]
    clear c2' hr hs hF hG q1
    generalize xs.length = n at *
    generalize ys.length = m at *
    go_enter Try.func31, Try.ntmps31
    go_wp2_with (go_at_call 24; refine (c1 _).mono ?_; rintro e w1 ⟨rfl, b1⟩; have bb := old_three b1; have MA := (((B3.new _ _ _ _ _).alloc _).alloc _).below b1; have MB := ((B3.newAt (n := w.heap.size + 1) (by go_simp) _ _ _ _).alloc _).below b1; have RB := (B3.newAt (n := w.heap.size + 1 + 1) (by go_simp) _ _ _ _).below b1; have a0 := MA.1; have a1 := MA.2.1; have a2 := MA.2.2.1; have d0 := MB.1; have d1 := MB.2.1; have d2 := MB.2.2.1; obtain ⟨t0, t1, t2, s0, s1, s2, hlt⟩ := id RB)
    exact bodyPost_ret (v := .tuple #[.agg #[.int .i64 0, .int .i64 0, .slice none 0 0], .int .i64 4]) (by simp [results, Try.results31, go_sem, t0, t1, t2]) rfl ⟨_, rfl, GaveF.none_put bb (by omega) _ _ _⟩
  cases q2 : rightM r2 c2 ys.length
  · rw [q1] at c1
    rw [q2] at c2'
    rw [Bool.true_and, Bool.false_and, if_neg (by decide)]
    clear q1 q2
    clear hr hs hF hG
    generalize xs.length = n at *
    generalize ys.length = m at *
    go_enter Try.func31, Try.ntmps31
    go_wp2_with (first | (go_at_call_of 24 (Value.agg #[Value.int IntKind.i64 r, Value.int IntKind.i64 c, Value.slice ao n cap]); refine (c1 _).mono ?_; rintro e w1 ⟨rfl, b1⟩; have bb := old_three b1; have MA := (((B3.new _ _ _ _ _).alloc _).alloc _).below b1; have MB := ((B3.newAt (n := w.heap.size + 1) (by go_simp) _ _ _ _).alloc _).below b1; have RB := (B3.newAt (n := w.heap.size + 1 + 1) (by go_simp) _ _ _ _).below b1; have a0 := MA.1; have a1 := MA.2.1; have a2 := MA.2.2.1; have d0 := MB.1; have d1 := MB.2.1; have d2 := MB.2.2.1; obtain ⟨t0, t1, t2, s0, s1, s2, hlt⟩ := id RB) | (go_at_call_of 24 (Value.agg #[Value.int IntKind.i64 r2, Value.int IntKind.i64 c2, Value.slice bo m cap2]); refine (c2' _).mono ?_; rintro e w2 ⟨rfl, b2⟩; have ca := bb.trans (b2.mono bb.size); replace MA := MA.below b2; replace MB := MB.below b2; replace RB := RB.below b2; have a0 := MA.1; have a1 := MA.2.1; have a2 := MA.2.2.1; have d0 := MB.1; have d1 := MB.2.1; have d2 := MB.2.2.1; obtain ⟨t0, t1, t2, s0, s1, s2, hlt⟩ := id RB))
    exact bodyPost_ret (v := .tuple #[.agg #[.int .i64 0, .int .i64 0, .slice none 0 0], .int .i64 4]) (by simp [results, Try.results31, go_sem, t0, t1, t2]) rfl ⟨_, rfl, GaveF.none_put ca (by omega) _ _ _⟩
  by_cases q3 : r = r2
  case neg =>
    rw [q1] at c1
    rw [q2] at c2'
    rw [Bool.true_and, show alikeM r c r2 c2 = false by unfold alikeM; rw [decide_eq_false q3]; rfl, if_neg (by decide)]
    have b9 : (r != r2) = true := by simp [q3]
    clear q1 q2 q3
    clear hr hs hF hG
    generalize xs.length = n at *
    generalize ys.length = m at *
    go_enter Try.func31, Try.ntmps31
    go_wp2_with (first | (go_at_call_of 24 (Value.agg #[Value.int IntKind.i64 r, Value.int IntKind.i64 c, Value.slice ao n cap]); refine (c1 _).mono ?_; rintro e w1 ⟨rfl, b1⟩; have bb := old_three b1; have MA := (((B3.new _ _ _ _ _).alloc _).alloc _).below b1; have MB := ((B3.newAt (n := w.heap.size + 1) (by go_simp) _ _ _ _).alloc _).below b1; have RB := (B3.newAt (n := w.heap.size + 1 + 1) (by go_simp) _ _ _ _).below b1; have a0 := MA.1; have a1 := MA.2.1; have a2 := MA.2.2.1; have d0 := MB.1; have d1 := MB.2.1; have d2 := MB.2.2.1; obtain ⟨t0, t1, t2, s0, s1, s2, hlt⟩ := id RB) | (go_at_call_of 24 (Value.agg #[Value.int IntKind.i64 r2, Value.int IntKind.i64 c2, Value.slice bo m cap2]); refine (c2' _).mono ?_; rintro e w2 ⟨rfl, b2⟩; have ca := bb.trans (b2.mono bb.size); replace MA := MA.below b2; replace MB := MB.below b2; replace RB := RB.below b2; have a0 := MA.1; have a1 := MA.2.1; have a2 := MA.2.2.1; have d0 := MB.1; have d1 := MB.2.1; have d2 := MB.2.2.1; obtain ⟨t0, t1, t2, s0, s1, s2, hlt⟩ := id RB))
    exact bodyPost_ret (v := .tuple #[.agg #[.int .i64 0, .int .i64 0, .slice none 0 0], .int .i64 4]) (by simp [results, Try.results31, go_sem, t0, t1, t2]) rfl ⟨_, rfl, GaveF.none_put ca (by omega) _ _ _⟩
  by_cases q4 : c = c2
  case neg =>
    rw [q1] at c1
    rw [q2] at c2'
    rw [Bool.true_and, show alikeM r c r2 c2 = false by unfold alikeM; rw [decide_eq_false q4, Bool.and_false], if_neg (by decide)]
    have b9 : (r != r2) = false := by simp [q3]
    have b10 : (c != c2) = true := by simp [q4]
    clear q1 q2 q3 q4
    clear hr hs hF hG
    generalize xs.length = n at *
    generalize ys.length = m at *
    go_enter Try.func31, Try.ntmps31
    go_wp2_with (first | (go_at_call_of 24 (Value.agg #[Value.int IntKind.i64 r, Value.int IntKind.i64 c, Value.slice ao n cap]); refine (c1 _).mono ?_; rintro e w1 ⟨rfl, b1⟩; have bb := old_three b1; have MA := (((B3.new _ _ _ _ _).alloc _).alloc _).below b1; have MB := ((B3.newAt (n := w.heap.size + 1) (by go_simp) _ _ _ _).alloc _).below b1; have RB := (B3.newAt (n := w.heap.size + 1 + 1) (by go_simp) _ _ _ _).below b1; have a0 := MA.1; have a1 := MA.2.1; have a2 := MA.2.2.1; have d0 := MB.1; have d1 := MB.2.1; have d2 := MB.2.2.1; obtain ⟨t0, t1, t2, s0, s1, s2, hlt⟩ := id RB) | (go_at_call_of 24 (Value.agg #[Value.int IntKind.i64 r2, Value.int IntKind.i64 c2, Value.slice bo m cap2]); refine (c2' _).mono ?_; rintro e w2 ⟨rfl, b2⟩; have ca := bb.trans (b2.mono bb.size); replace MA := MA.below b2; replace MB := MB.below b2; replace RB := RB.below b2; have a0 := MA.1; have a1 := MA.2.1; have a2 := MA.2.2.1; have d0 := MB.1; have d1 := MB.2.1; have d2 := MB.2.2.1; obtain ⟨t0, t1, t2, s0, s1, s2, hlt⟩ := id RB))
    exact bodyPost_ret (v := .tuple #[.agg #[.int .i64 0, .int .i64 0, .slice none 0 0], .int .i64 4]) (by simp [results, Try.results31, go_sem, t0, t1, t2]) rfl ⟨_, rfl, GaveF.none_put ca (by omega) _ _ _⟩
  obtain ⟨R, C, rfl, rfl, hR, hC, hl⟩ := rightM_nat q1
  subst q3 q4
  obtain ⟨R', C', e1, e2, _, _, hm⟩ := rightM_nat q2
  have e3 : R' = R := by omega
  have e4 : C' = C := by omega
  subst e3 e4
  rw [Bool.true_and, show alikeM R' C' R' C' = true by unfold alikeM; simp, Bool.true_and, if_pos rfl]
  simp only [Int.toNat_natCast]
  exact rsub_R R' C' xs ys ao bo cap cap2 w hr hs hF hG hl hm hR hC
end Go.Proofs.Ytnbdhbmiiplmbaa
