/- What Same and Symmetric of the document answer. -/
import Derived.Test.YtbnjjoaippoinaaXm1
import Derived.Test.YtbnjjoaippoinaaRa
import Derived.Deep.QuietTactic
import Derived.BigQuiet
namespace Go.Proofs.Ytbnjjoaippoinaa
open Go.RowKit

set_option maxHeartbeats 400000 in
theorem mref_same (a b : Nat) (ha : a < 18446744073709551616) (hb : b < 18446744073709551616) (w : World) :
    Calls Try.prog 48 #[.float .f64 a, .float .f64 b] w fun e w' => e = .returned (.bool (sameB a b)) ∧ w' = w := by
  have fa := run_fbits a
  have fb := run_fbits b
  by_cases h : a = b
  · have b1 : ((a : Int) == (b : Int)) = true := by simp; omega
    have HE : Hid (sameB a b = true) := (show sameB a b = true by unfold sameB; subst h; cases nanB a <;> simp)
    clear h
    go_enter Try.func48, Try.ntmps48
    go_wp2_with (first | (go_at_call 62; refine (rnan_any _ (by assumption) _).mono ?_; rintro e w' ⟨rfl, rfl⟩))
    go_ret
    exact ⟨end_bool HE.out.symm, rfl⟩
  · have b1 : ((a : Int) == (b : Int)) = false := by simp; omega
    have HE : Hid (sameB a b = (nanB a && nanB b)) := (show sameB a b = (nanB a && nanB b) by unfold sameB; cases nanB a <;> simp [h])
    clear h
    cases na : nanB a
    all_goals
      go_enter Try.func48, Try.ntmps48
      go_wp2_with (first | (go_at_call 62; refine (rnan_any _ (by assumption) _).mono ?_; rintro e w' ⟨rfl, rfl⟩))
      go_ret
      exact ⟨end_bool (by rw [HE.out, na]; rfl), rfl⟩
/-- A row of a matrix as it is answered. -/
theorem RRow.gave {w w' : World} {g R C N : Nat} {f : Nat → Nat} {o : Nat → Nat → Option Nat} (h : RRow w' g N f) (hN : R * C = N) (hv : ∀ p, p < N → NR (o (p / C) (p % C)) (f p)) (hg : w.heap.size ≤ g) (hb : Below w.heap.size w w') : GaveF w (tabM R C o) (.slice (some ⟨g, 0, none⟩) N N) w' := by
  unfold tabM
  rw [hN]
  exact ⟨some ⟨g, 0, none⟩, N, toL' N f, by rw [toL'_len], LN_tab (toL'_len _ _) (fun i hi => by rw [toL'_at hi]; exact hv i hi), h.grow (toL'_len _ _) (fun j hj => toL'_at hj), by rw [toL'_len]; exact Nat.le_refl _, fun a e => by cases e; exact hg, hb⟩
theorem id_place {n k p : Nat} (hk : k < n) : (p = k * n + k) ↔ (p / n = k ∧ p % n = k) := by
  constructor
  · rintro rfl; exact at_div hk
  · rintro ⟨h1, h2⟩
    have := Nat.div_add_mod p n
    rw [h1, h2, Nat.mul_comm] at this
    omega
end Go.Proofs.Ytbnjjoaippoinaa

namespace Go.Proofs.Ytbnjjoaippoinaa
open Go.RowKit

theorem sameB_me' (a : Nat) : sameB a a = true := by unfold sameB; cases nanB a <;> simp
theorem B3.quiet {w : World} {b : Nat} {x y z : Value} (h : B3 w b x y z) (n : Nat) : B3 (w.drewN n) b x y z := h.below (below_drewN (Below.refl _ _) n)
/-- Symmetric, by the places below the diagonal. -/
theorem sym_low {R : Nat} {xs : List Nat} (h : ∀ i j, i < R → j < i → sameB (xs.getD (i * R + j) 0) (xs.getD (j * R + i) 0) = true) : ((List.range (R * R)).all fun p => sameB (xs.getD p 0) (xs.getD ((p % R) * R + p / R) 0)) = true := by
  rw [List.all_eq_true]
  intro p hp
  have hp := List.mem_range.1 hp
  obtain ⟨h1, h2⟩ := div_lt' hp
  have e : p / R * R + p % R = p := by rw [Nat.mul_comm]; exact Nat.div_add_mod p R
  generalize p / R = i at *
  generalize p % R = j at *
  subst e
  rcases Nat.lt_trichotomy i j with g | g | g
  · rw [← h j i h2 g]
    unfold sameB
    cases ha : nanB (xs.getD (i * R + j) 0) <;> cases hb : nanB (xs.getD (j * R + i) 0)
    · simp only [Bool.false_eq_true, if_false]
      exact decide_eq_decide.2 ⟨Eq.symm, Eq.symm⟩
    · simp only [Bool.false_eq_true, if_false, if_true]
      exact decide_eq_false (fun e => by rw [e] at ha; rw [ha] at hb; cases hb)
    · simp only [Bool.false_eq_true, if_false, if_true]
      exact (decide_eq_false (fun e => by rw [e] at hb; rw [ha] at hb; cases hb)).symm
    · rfl
  · subst g; exact sameB_me' _
  · exact h i j h1 g
theorem sym_not {R : Nat} {xs : List Nat} {i j : Nat} (hi : i < R) (hj : j < R) (h : sameB (xs.getD (i * R + j) 0) (xs.getD (j * R + i) 0) = false) : ((List.range (R * R)).all fun p => sameB (xs.getD p 0) (xs.getD ((p % R) * R + p / R) 0)) = false := by
  rw [List.all_eq_false]
  refine ⟨i * R + j, List.mem_range.2 (at_lt hi hj), ?_⟩
  rw [(at_div hj).1, (at_div hj).2, h]
  simp
set_option maxRecDepth 100000 in
set_option maxHeartbeats 2000000 in
theorem rsym_any (r c : Int) (xs : List Nat) (ao : Option Addr) (cap : Nat) (w : World) (hr : GRow w ao xs) (hF : FW xs) :
    Calls Try.prog 33 #[mxV r c ao xs.length cap] w fun e w' => e = .returned (.bool (symM r c xs)) ∧ Below w.heap.size w w' := by
  have c1 := fun w => rright_any r c ao xs.length cap w
  unfold symM
  cases q1 : rightM r c xs.length
  · rw [q1] at c1
    rw [Bool.false_and, Bool.false_and]
    generalize xs.length = n at *
    go_enter Try.func33, Try.ntmps33
    go_wp2_with (go_at_call 47; refine (c1 _).mono ?_; rintro e w1 ⟨rfl, b1⟩; have bb := old_one b1)
    go_ret
    exact ⟨rfl, bb⟩
  rw [q1] at c1
  obtain ⟨R, C, rfl, rfl, hR, hC, hl⟩ := rightM_nat q1
  rw [Bool.true_and]
  clear q1
  by_cases hRC : R = C
  case neg =>
    rw [decide_eq_false (by omega : ¬ (R : Int) = (C : Int)), Bool.false_and]
    have b9 : ((R : Int) != (C : Int)) = true := by simp; omega
    clear hl hRC
    generalize xs.length = n at *
    go_enter Try.func33, Try.ntmps33
    go_wp2_with (go_at_call 47; refine (c1 _).mono ?_; rintro e w1 ⟨rfl, b1⟩; have bb := old_one b1; obtain ⟨a0, a1, a2, _⟩ := (B3.new _ _ _ _ _).below b1)
    go_ret
    exact ⟨rfl, bb⟩
  subst hRC
  rw [decide_eq_true rfl, Bool.true_and]
  simp only [Int.toNat_natCast]
  have HX : Hid (xs.length = R * R) := hl
  clear hl
  obtain ⟨q, hq⟩ : ∃ q, ((List.range (R * R)).all fun p => sameB (xs.getD p 0) (xs.getD ((p % R) * R + p / R) 0)) = q := ⟨_, rfl⟩
  rw [hq]
  have HQ : Hid (((List.range (R * R)).all fun p => sameB (xs.getD p 0) (xs.getD ((p % R) * R + p / R) 0)) = q) := hq
  clear hq
  have b9 : ((R : Int) != (R : Int)) = false := by simp
  obtain ⟨n, hn⟩ : ∃ n, xs.length = n := ⟨_, rfl⟩
  have HXn : Hid (xs.length = n) := hn
  rw [hn] at c1 ⊢
  clear hn
  go_enter Try.func33, Try.ntmps33
  go_upto_region 3 with (go_at_call 47; refine (c1 _).mono ?_; rintro e w1 ⟨rfl, b1⟩; have bb := old_one b1; have MA := (B3.new _ _ _ _ _).below b1; obtain ⟨a0, a1, a2, _⟩ := id MA)
  clear a0 a1 a2 b1 c1
  go_wp2
  go_loopg [3] R (fun g s wr => ∃ i : Nat, i ≤ R ∧ g = R - i ∧ s = .int .i64 i ∧ Hid (∀ a b, a < i → b < a → sameB (xs.getD (a * R + b) 0) (xs.getD (b * R + a) 0) = true) ∧ B3 wr w.heap.size (.int .i64 R) (.int .i64 R) (.slice ao n cap) ∧ Below w.heap.size w wr)
  case atStart => exact ⟨0, Nat.zero_le _, rfl, rfl, fun a b h => by omega, MA, bb⟩
  case round =>
    clear MA bb
    obtain ⟨i, hi, hg, rfl, hv, MA, HB⟩ := hrel
    have HG : Hid (gk = R - i) := hg
    clear hg
    have a0 := MA.1
    by_cases hlt : i < R
    · have j1 : (i : Int) < (R : Int) := by omega
      go_wp2
      go_loopg [4] i (fun g s wr => ∃ j : Nat, j ≤ i ∧ g = i - j ∧ s = .int .i64 j ∧ Hid (∀ b, b < j → sameB (xs.getD (i * R + b) 0) (xs.getD (b * R + i) 0) = true) ∧ B3 wr w.heap.size (.int .i64 R) (.int .i64 R) (.slice ao n cap) ∧ Below w.heap.size w wr)
      case atStart => exact ⟨0, Nat.zero_le _, rfl, rfl, fun b h => by omega, MA, HB⟩
      case round =>
        clear MA HB a0
        obtain ⟨j, hj, hg, rfl, hu, MA, HB⟩ := hrel
        have HG2 : Hid (gk = i - j) := hg
        clear hg
        by_cases hlt2 : j < i
        · have j2 : (j : Int) < (i : Int) := by omega
          have hp : i * R + j < xs.length := by rw [HX.out]; exact at_lt hlt (by omega)
          have hq : j * R + i < xs.length := by rw [HX.out]; exact at_lt (by omega) hlt
          have ce := fun W h => rat_any xs R R i j (i * R + j) n cap ao W h (by omega) hR (by omega) rfl hp HXn.out
          have cf := fun W h => rat_any xs R R j i (j * R + i) n cap ao W h (by omega) hR (by omega) rfl hq HXn.out
          have hx := hF.at hp
          have hy := hF.at hq
          have HF0 : Hid (sameB (xs.getD (i * R + j) 0) (xs.getD (j * R + i) 0) = false → false = q) := fun h => by rw [← HQ.out]; exact (sym_not hlt (by omega) h).symm
          have HF1 : Hid (sameB (xs.getD (i * R + j) 0) (xs.getD (j * R + i) 0) = true → ∀ b, b < j + 1 → sameB (xs.getD (i * R + b) 0) (xs.getD (b * R + i) 0) = true) := fun h b hb => by
            by_cases e : b = j
            · subst e; exact h
            · exact hu.out b (by omega)
          generalize xs.getD (i * R + j) 0 = x at *
          generalize xs.getD (j * R + i) 0 = y at *
          have cs := fun w => mref_same x y hx hy w
          have hne : Nonempty (LOf wr) := LOf.any _
          have k0 : ∀ u : LOf wr, u.val.cell? ⟨w.heap.size, 0, none⟩ = some (.int .i64 R) := fun u => u.cell MA.1
          have k1 : ∀ u : LOf wr, u.val.cell? ⟨w.heap.size, 1, none⟩ = some (.int .i64 R) := fun u => u.cell MA.2.1
          have k2 : ∀ u : LOf wr, u.val.cell? ⟨w.heap.size, 2, none⟩ = some (.slice ao n cap) := fun u => u.cell MA.2.2.1
          have kr : ∀ u : LOf wr, GRow u.val ao xs := fun u => u.row (hr.below HB)
          clear hp hq hu hv
          cases hq2 : sameB x y
          · rw [hq2] at cs
            have HZ := HF0.out hq2
            have HZ2 : Hid (false = q) := HZ
            clear HZ
            go_wp2
            refine region_later (by kernel_rfl) (by kernel_rfl) ?_
            repeat (quiet_step (first | (go_at_call 48; exact later_same (cs _)) | (go_at_call 49; first | with_reducible exact later_of (ce _ (kr _)) | with_reducible exact later_of (cf _ (kr _)))))
            refine wpQuiet_nil ?_
            intro w' hw'
            obtain ⟨u, rfl⟩ := hw'
            have hbu := HB.trans (u.below.mono HB.size)
            go_wp2
            go_ret
            exact ⟨end_bool HZ2.out, hbu⟩
          · rw [hq2] at cs
            go_wp2
            refine region_later (by kernel_rfl) (by kernel_rfl) ?_
            repeat (quiet_step (first | (go_at_call 48; exact later_same (cs _)) | (go_at_call 49; first | with_reducible exact later_of (ce _ (kr _)) | with_reducible exact later_of (cf _ (kr _)))))
            refine wpQuiet_nil ?_
            intro w' hw'
            obtain ⟨u, rfl⟩ := hw'
            have hbu := HB.trans (u.below.mono HB.size)
            have MAu := MA.below u.below
            have HF2 : Hid (∀ b, b < j + 1 → sameB (xs.getD (i * R + b) 0) (xs.getD (b * R + i) 0) = true) := HF1.out hq2
            clear HF1 HF0
            go_wp2
            go_roundg (i - (j + 1))
            case measure => rw [HG2.out]; omega
            case rel => exact ⟨j + 1, by omega, rfl, by go_num, HF2, MAu, hbu⟩
        · have ej : j = i := by omega
          subst ej
          have j2 : ¬ (j : Int) < (j : Int) := by omega
          have HV : Hid (∀ a b, a < j + 1 → b < a → sameB (xs.getD (a * R + b) 0) (xs.getD (b * R + a) 0) = true) := fun a b ha hb => by
            by_cases e : a = j
            · subst e; exact hu.out b hb
            · exact hv.out a b (by omega) hb
          clear hu hv
          go_wp2
          go_roundg (R - (j + 1))
          case measure => rw [HG.out]; omega
          case rel => exact ⟨j + 1, by omega, rfl, by go_num, HV, MA, HB⟩
    · have ei : i = R := by omega
      subst ei
      have j1 : ¬ (i : Int) < (i : Int) := by omega
      have HZ : Hid (true = q) := (show true = q by rw [← HQ.out]; exact (sym_low (fun a b h1 h2 => hv.out a b h1 h2)).symm)
      clear hv
      go_wp2
      go_ret
      exact ⟨end_bool HZ.out, HB⟩
end Go.Proofs.Ytbnjjoaippoinaa
