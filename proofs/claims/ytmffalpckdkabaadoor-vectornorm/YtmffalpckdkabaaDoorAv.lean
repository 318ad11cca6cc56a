/- VectorNorm: the walk, as far as the two loops. -/
import Derived.Test.YtmffalpckdkabaaDoorY1
import Derived.Test.YtmffalpckdkabaaDoorY3
import Derived.Test.YtmffalpckdkabaaDoorY2
import Derived.Deep.QuietTactic
import Derived.BigQuiet
namespace Go.Proofs.YtmffalpckdkabaaDoor
open Go.RowKit

theorem GRow.cutN {w : World} {ao : Option Addr} {xs : List Nat} (h : GRow w ao xs) (n : Nat) : GRow w ao (xs.take n) := by
  rcases h with h | ⟨b, off, rfl, hc⟩
  · exact Or.inl (by rw [List.length_take, h]; simp)
  · refine Or.inr ⟨b, off, rfl, fun j hj => ?_⟩
    rw [List.length_take] at hj
    rw [hc j (by omega), List.getD_eq_getElem?_getD, List.getD_eq_getElem?_getD, List.getElem?_take_of_lt (by omega)]
theorem FW.cutN {xs : List Nat} (h : FW xs) (n : Nat) : FW (xs.take n) := fun x hx => h x (List.mem_of_mem_take hx)
set_option maxHeartbeats 400000 in
theorem isinf_yes (w : World) : Calls Tryd.prog 11 #[.float .f64 9218868437227405312, .int .i64 1] w fun e w' => e = .returned (.bool true) ∧ w' = w := by
  have o1 : (FloatKind.f64.format.order 9218868437227405312 9218868437227405311 == some .gt) = true := by kernel_rfl
  go_enter Tryd.func11, Tryd.ntmps11
  go_wp2
  go_ret
  exact ⟨rfl, rfl⟩
theorem bthen {w W W' : World} (h : Below w.heap.size w W) (b : Below W.heap.size W W') : Below w.heap.size w W' := h.trans (b.mono h.size)
set_option maxRecDepth 100000 in
set_option maxHeartbeats 8000000 in
theorem norm_law (xs0 : List Nat) (ao : Option Addr) (cap : Nat) (w : World) (hT : TabW w) (hr0 : GRow w ao xs0) (hF0 : FW xs0) (hn0 : xs0.length ≤ cap) (hc : cap ≤ 17592186044416) :
    Calls Tryd.prog 3 #[.slice ao xs0.length cap] w fun e w' => e = .returned (.bool true) ∧ Below w.heap.size w w' := by
  have HB0 : Below w.heap.size w w := Below.refl _ _
  go_enter Tryd.func3, Tryd.ntmps3
  go_upto_if 22 with (go_at_call 4; refine (vawake _).mono ?_; rintro e wa ⟨rfl, ba⟩)
  go_cut [0, 23, 24] (fun x _ _ wx => ∃ ys, x = .slice ao (ys : List Nat).length cap ∧ GRow wx ao ys ∧ FW ys ∧ ys.length ≤ 300 ∧ GRow w ao ys ∧ Below w.heap.size w wx)
  case first =>
    have gb := hr0.below ba
    by_cases h : 300 < xs0.length
    · have i1 : (300 : Int) < (xs0.length : Int) := by omega
      have i2 : (300 : Int) ≤ (cap : Int) := by omega
      have lt : (xs0.take 300).length = 300 := by rw [List.length_take]; omega
      have HL : Hid (Value.slice ao 300 cap = Value.slice ao (xs0.take 300).length cap ∧ (xs0.take 300).length ≤ 300) := ⟨by rw [lt], by omega⟩
      clear lt
      go_wp2
      go_meet
      exact ⟨xs0.take 300, HL.out.1, gb.cutN _, hF0.cutN _, HL.out.2, hr0.cutN _, bthen HB0 ba⟩
    · have i1 : ¬ (300 : Int) < (xs0.length : Int) := by omega
      go_wp2
      go_meet
      exact ⟨xs0, rfl, gb, hF0, by omega, hr0, bthen HB0 ba⟩
  obtain ⟨xs, rfl, hr, hF, hl, hrw0, HB⟩ := hcut
  have hrw : Hid (GRow w ao xs) := hrw0
  clear hrw0
  clear hr0 hF0 hn0 ba
  -- the norm, the greatest size, the exact 0
  have hms := ms_inv xs xs.length
  obtain ⟨mb1, mb2, mb3⟩ := msL_bounds xs xs.length
  obtain ⟨⟨at_, sz⟩, hq⟩ : ∃ q : Int × Nat, msL xs xs.length = q := ⟨_, rfl⟩
  have cm := fun w h => vmost_any xs ao cap w h hF (by omega)
  rw [hq] at cm hms mb1 mb2 mb3
  dsimp only at cm hms mb1 mb2 mb3
  have ci := fun w h => Int_any 0 (by omega) (by omega) w h
  rw [intD_zero] at ci
  go_upto_region 7 with (first
    | (go_at_call 5; refine (vnorm_any _ _ _ _ hr hF (by omega)).mono ?_; rintro e wz ⟨N, rfl, hN, bz⟩; replace hr := hr.below bz; replace HB := bthen HB bz)
    | (go_at_call 6; refine (cm _ hr).mono ?_; rintro e w' ⟨rfl, h'⟩; subst w'))
  go_cut [32, 6] (fun _ p wx => ∃ P so sc, p = .pointer (some ⟨P, 0, none⟩) ∧ Hd wx P dy0 so sc ∧ Fz wx P ∧ w.heap.size ≤ P ∧ GRow wx ao xs ∧ Below w.heap.size w wx)
  case first =>
    have hTz := tabW_below hT HB
    go_wp2_with (go_at_call 7; refine (ci _ hTz).mono ?_; rintro e w1 ⟨so, sc, rfl, r1, _, b1⟩)
    go_meet
    have B1 := bthen HB b1
    exact ⟨w1.heap.size, so, sc, rfl, Hd.new (d := dy0) r1, ⟨by go_simp, by go_simp, by go_simp⟩, B1.size, row_on (hr.below b1) _, B1.alloc B1.size _⟩
  obtain ⟨P, so, sc, rfl, hP, hZ, lP, hr, HB⟩ := hcut
  go_wp2
  go_loopg [8, 9] xs.length (fun g f i wr => ∃ (k : Nat) (fl : Bool), k ≤ xs.length ∧ g = xs.length - k ∧ f = .bool fl ∧ i = .int .i64 k ∧ Hid (∀ j, j < k → nanB (xs.getD j 0) = false) ∧ Hid (fl = true → ∀ j, j < k → finB (xs.getD j 0) = true) ∧ Hid (fl = false → ∃ j, j < k ∧ finB (xs.getD j 0) = false) ∧ Hd wr P dy0 so sc ∧ Fz wr P ∧ GRow wr ao xs ∧ Below w.heap.size w wr)
  case atStart => exact ⟨0, true, Nat.zero_le _, rfl, rfl, rfl, fun j hj => by omega, fun _ j hj => by omega, fun h => (by cases h), hP, hZ, hr, HB⟩
  case round =>
    clear hP hZ hr HB
    obtain ⟨k, fl, hk, hg, rfl, rfl, hNN, hF1, hF2, hP, hZ, hr, HB⟩ := hrel
    have HG : Hid (gk = xs.length - k) := hg
    clear hg
    have hPl : P < wr.heap.size := World.block_lt_of_cell? wr _ hP.c0
    by_cases hlt : k < xs.length
    · as_aux_lemma =>
      rcases hr.below (Below.refl _ _) with h | ⟨b, off, rfl, hcc⟩
      · omega
      have g1 := hcc k hlt
      have hx := hF.at hlt
      have i1 : (k : Int) < (xs.length : Int) := by omega
      have M2 : Hid (∀ a : Nat, at_ = (a : Int) → nanB (xs.getD a 0) = false) := fun a h => (hms.2.1 a h).2.1
      have NN : Hid (nanB (xs.getD k 0) = true → nrO xs xs.length = none) := fun h => nr_nan xs h _ hlt
      have M1 : Hid (nanB (xs.getD k 0) = false → ¬ at_ < 0 ∧ rung (xs.getD k 0) ≤ sz ∧ ((k : Int) < at_ → rung (xs.getD k 0) < sz)) := fun h => ⟨fun c => (by have := (hms.1 c).2 k hlt; rw [h] at this; cases this), hms.2.2 k hlt h⟩
      have M3 : Hid (nanB (xs.getD k 0) = true → at_ ≠ (k : Int)) := fun h e => by have := M2.out k e; rw [h] at this; cases this
      have HN1 : Hid (nanB (xs.getD k 0) = false → ∀ j, j < k + 1 → nanB (xs.getD j 0) = false) := fun h j hj => by
        by_cases e : j = k
        · subst e; exact h
        · exact hNN.out j (by omega)
      have HF1 : Hid (finB (xs.getD k 0) = true → fl = true → ∀ j, j < k + 1 → finB (xs.getD j 0) = true) := fun h1 h2 j hj => by
        by_cases e : j = k
        · subst e; exact h1
        · exact hF1.out h2 j (by omega)
      have HF2 : Hid (finB (xs.getD k 0) = false → ∃ j, j < k + 1 ∧ finB (xs.getD j 0) = false) := fun h => ⟨k, by omega, h⟩
      have HF3 : Hid (fl = false → ∃ j, j < k + 1 ∧ finB (xs.getD j 0) = false) := fun h => by
        obtain ⟨j, h1, h2⟩ := hF2.out h
        exact ⟨j, by omega, h2⟩
      clear hcc hNN hF1 hF2 M2
      generalize xs.getD k 0 = x at *
      have na := ord_self x hx
      have cb := abs_any x hx
      cases hnan : nanB x
      · rw [hnan] at na
        obtain ⟨t2, t1, t3⟩ := M1.out hnan
        have HN2 : Hid (∀ j, j < k + 1 → nanB (xs.getD j 0) = false) := HN1.out hnan
        have hru := not_nan hnan
        unfold infW at hru
        have ho := size_gt hru mb3
        rw [decide_eq_false (by omega)] at ho
        clear M1 NN M3 HN1
        by_cases hk3 : (k : Int) < at_
        · have he : (FloatKind.f64.format.order (rung x) sz == some .eq) = false := by
            rw [ord_lt (vrung64 x) (by omega) (by rw [nan_rung]; exact hnan) (nan_small mb3) (by rw [place_small (rung_lt x), place_small (by omega)]; have := t3 hk3; omega)]; rfl
          clear t3
          cases fl
          · have F2 := HF3.out rfl
            clear HF1 HF2 HF3
            go_wp2
            go_quiet (fail)
            go_wp2_with (first
              | (go_at_call 8; refine (cb _).mono ?_; rintro e w' ⟨rfl, h'⟩; subst w'))
            go_roundg (xs.length - (k + 1))
            case measure => rw [HG.out]; omega
            case rel =>
              refine ⟨k + 1, false, by omega, rfl, rfl, by go_num, HN2.out, fun h => (by cases h), fun _ => F2, ?_, ?_, ?_, ?_⟩
              · exact hP.below (by first | exact below_drewN (Below.refl _ _) _ | exact (below_drewN (Below.refl _ _) _).drew)
              · exact hZ.below hPl (by first | exact below_drewN (Below.refl _ _) _ | exact (below_drewN (Below.refl _ _) _).drew)
              · exact hr.below (by first | exact below_drewN (Below.refl _ _) _ | exact (below_drewN (Below.refl _ _) _).drew)
              · first | exact below_drewN HB _ | exact (below_drewN HB _).drew
          · cases hfx : finB x
            · have F2 := HF2.out hfx
              have cf := fin_no x hx hfx
              clear HF1 HF2 HF3
              go_wp2
              go_quiet (fail)
              go_wp2_with (first
                | (go_at_call 8; refine (cb _).mono ?_; rintro e w' ⟨rfl, h'⟩; subst w')
                | (go_at_call 9; refine (cf _).mono ?_; rintro e w' ⟨rfl, h'⟩; subst w'))
              go_roundg (xs.length - (k + 1))
              case measure => rw [HG.out]; omega
              case rel =>
                refine ⟨k + 1, false, by omega, rfl, rfl, by go_num, HN2.out, fun h => (by cases h), fun _ => F2, ?_, ?_, ?_, ?_⟩
                · exact hP.below (by first | exact below_drewN (Below.refl _ _) _ | exact (below_drewN (Below.refl _ _) _).drew)
                · exact hZ.below hPl (by first | exact below_drewN (Below.refl _ _) _ | exact (below_drewN (Below.refl _ _) _).drew)
                · exact hr.below (by first | exact below_drewN (Below.refl _ _) _ | exact (below_drewN (Below.refl _ _) _).drew)
                · first | exact below_drewN HB _ | exact (below_drewN HB _).drew
            · have F1 := HF1.out hfx rfl
              have cf := fin_yes x hx hfx
              clear HF1 HF2 HF3
              go_wp2
              go_quiet (fail)
              go_wp2_with (first
                | (go_at_call 8; refine (cb _).mono ?_; rintro e w' ⟨rfl, h'⟩; subst w')
                | (go_at_call 9; refine (cf _).mono ?_; rintro e w' ⟨rfl, h'⟩; subst w'))
              go_roundg (xs.length - (k + 1))
              case measure => rw [HG.out]; omega
              case rel =>
                refine ⟨k + 1, true, by omega, rfl, rfl, by go_num, HN2.out, fun _ => F1, fun h => (by cases h), ?_, ?_, ?_, ?_⟩
                · exact hP.below (by first | exact below_drewN (Below.refl _ _) _ | exact (below_drewN (Below.refl _ _) _).drew)
                · exact hZ.below hPl (by first | exact below_drewN (Below.refl _ _) _ | exact (below_drewN (Below.refl _ _) _).drew)
                · exact hr.below (by first | exact below_drewN (Below.refl _ _) _ | exact (below_drewN (Below.refl _ _) _).drew)
                · first | exact below_drewN HB _ | exact (below_drewN HB _).drew
        · clear t3
          cases fl
          · have F2 := HF3.out rfl
            clear HF1 HF2 HF3
            go_wp2
            go_quiet (fail)
            go_wp2_with (first
              | (go_at_call 8; refine (cb _).mono ?_; rintro e w' ⟨rfl, h'⟩; subst w'))
            go_roundg (xs.length - (k + 1))
            case measure => rw [HG.out]; omega
            case rel =>
              refine ⟨k + 1, false, by omega, rfl, rfl, by go_num, HN2.out, fun h => (by cases h), fun _ => F2, ?_, ?_, ?_, ?_⟩
              · exact hP.below (by first | exact below_drewN (Below.refl _ _) _ | exact (below_drewN (Below.refl _ _) _).drew)
              · exact hZ.below hPl (by first | exact below_drewN (Below.refl _ _) _ | exact (below_drewN (Below.refl _ _) _).drew)
              · exact hr.below (by first | exact below_drewN (Below.refl _ _) _ | exact (below_drewN (Below.refl _ _) _).drew)
              · first | exact below_drewN HB _ | exact (below_drewN HB _).drew
          · cases hfx : finB x
            · have F2 := HF2.out hfx
              have cf := fin_no x hx hfx
              clear HF1 HF2 HF3
              go_wp2
              go_quiet (fail)
              go_wp2_with (first
                | (go_at_call 8; refine (cb _).mono ?_; rintro e w' ⟨rfl, h'⟩; subst w')
                | (go_at_call 9; refine (cf _).mono ?_; rintro e w' ⟨rfl, h'⟩; subst w'))
              go_roundg (xs.length - (k + 1))
              case measure => rw [HG.out]; omega
              case rel =>
                refine ⟨k + 1, false, by omega, rfl, rfl, by go_num, HN2.out, fun h => (by cases h), fun _ => F2, ?_, ?_, ?_, ?_⟩
                · exact hP.below (by first | exact below_drewN (Below.refl _ _) _ | exact (below_drewN (Below.refl _ _) _).drew)
                · exact hZ.below hPl (by first | exact below_drewN (Below.refl _ _) _ | exact (below_drewN (Below.refl _ _) _).drew)
                · exact hr.below (by first | exact below_drewN (Below.refl _ _) _ | exact (below_drewN (Below.refl _ _) _).drew)
                · first | exact below_drewN HB _ | exact (below_drewN HB _).drew
            · have F1 := HF1.out hfx rfl
              have cf := fin_yes x hx hfx
              clear HF1 HF2 HF3
              go_wp2
              go_quiet (fail)
              go_wp2_with (first
                | (go_at_call 8; refine (cb _).mono ?_; rintro e w' ⟨rfl, h'⟩; subst w')
                | (go_at_call 9; refine (cf _).mono ?_; rintro e w' ⟨rfl, h'⟩; subst w'))
              go_roundg (xs.length - (k + 1))
              case measure => rw [HG.out]; omega
              case rel =>
                refine ⟨k + 1, true, by omega, rfl, rfl, by go_num, HN2.out, fun _ => F1, fun h => (by cases h), ?_, ?_, ?_, ?_⟩
                · exact hP.below (by first | exact below_drewN (Below.refl _ _) _ | exact (below_drewN (Below.refl _ _) _).drew)
                · exact hZ.below hPl (by first | exact below_drewN (Below.refl _ _) _ | exact (below_drewN (Below.refl _ _) _).drew)
                · exact hr.below (by first | exact below_drewN (Below.refl _ _) _ | exact (below_drewN (Below.refl _ _) _).drew)
                · first | exact below_drewN HB _ | exact (below_drewN HB _).drew
      · rw [hnan] at na
        have hN' : NR none N := by rw [← NN.out hnan]; exact hN
        have nN : (FloatKind.f64.format.order N N != some .eq) = true := by rw [ord_self N hN'.1]; exact hN'.2
        have hne : (at_ != (k : Int)) = true := by have := M3.out hnan; simpa using this
        clear M1 NN M3 HN1 HF1 HF2 HF3
        go_wp2
        go_quiet (fail)
        go_wp2
        go_ret
        exact ⟨rfl, below_drewN HB _⟩
    · have ek : k = xs.length := by omega
      subst ek
      have i1 : ¬ (xs.length : Int) < (xs.length : Int) := by omega
      obtain ⟨s, e1, e2, e3, e4⟩ := nr_inv xs xs.length hl hNN.out
      have hNs : N = s := by rw [e1] at hN; exact hN.2
      subst hNs
      have eI : infW = 9218868437227405312 := rfl
      have nN : nanB N = false := nan_small (by rw [← eI]; exact e2)
      have HI : Hid (fl = false → N = 9218868437227405312) := fun h => by
        obtain ⟨j, h1, h2⟩ := hF2.out h
        rcases Nat.lt_or_ge N infW with c | c
        · have := (e4 c).1 j h1
          unfold finB at h2
          rw [eI] at this
          have h3 := of_decide_eq_false h2
          omega
        · omega
      have HA : Hid (fl = true → xs.all finB = true) := fun h => by
        rw [List.all_eq_true]
        intro y hy
        obtain ⟨j, hj, rfl⟩ := List.getElem_of_mem hy
        have := hF1.out h j hj
        rw [getD_at hj] at this
        exact this
      have HV : Hid (N < 9218868437227405312 → sI (szL xs) xs.length ≤ (val N : Int) ∧ (val N : Int) * 549755813888 ≤ sI (szL xs) xs.length * 549755813889) := fun h => by
        obtain ⟨_, q1, q2⟩ := e4 (by rw [eI]; exact h)
        refine ⟨q1, ?_⟩
        have q3 : (4503599627370496 + 2 * (xs.length : Int)) * sI (szL xs) xs.length = 4503599627370496 * sI (szL xs) xs.length + 2 * ((xs.length : Int) * sI (szL xs) xs.length) := by rw [Int.add_mul, Int.mul_assoc]
        have hS : 0 ≤ sI (szL xs) xs.length := by
          rcases Int.lt_or_le (sI (szL xs) xs.length) 0 with c | c
          · exfalso
            have : (4503599627370496 + 2 * (xs.length : Int)) * sI (szL xs) xs.length < 0 := Int.mul_neg_of_pos_of_neg (by omega) c
            omega
          · exact c
        have q4 : (xs.length : Int) * sI (szL xs) xs.length ≤ 300 * sI (szL xs) xs.length := Int.mul_le_mul_of_nonneg_right (by omega) hS
        rw [q3] at q2
        generalize (xs.length : Int) * sI (szL xs) xs.length = nS at *
        generalize sI (szL xs) xs.length = S at *
        omega
      have hsN : sz ≤ N := by
        by_cases c : at_ < 0
        · rw [(hms.1 c).1]; omega
        · obtain ⟨a, ha⟩ := Int.eq_ofNat_of_zero_le (show 0 ≤ at_ by omega)
          obtain ⟨a1, a2, a3⟩ := hms.2.1 a ha
          rw [a3]; exact e3 a a1
      have leqf : (FloatKind.f64.format.order sz N == some .lt || FloatKind.f64.format.order sz N == some .eq) = true := by
        rcases Nat.eq_or_lt_of_le hsN with c | c
        · rw [ord_eq (by omega) (by omega) (nan_small mb3) nN (by rw [c])]; rfl
        · rw [ord_lt (by omega) (by omega) (nan_small mb3) nN (by rw [place_small (by omega), place_small (by omega)]; omega)]; rfl
      have cS1 := signbit_any N (by omega)
      have cS2 := signbit_any sz (by omega)
      rw [sgn_small (by omega)] at cS1 cS2
      have d1 : ¬ (xs.length : Int) ≤ at_ := by omega
      clear e1 e3 e4 hN hF1 hF2
      go_upto_region 18 with fail
      go_cut [89, 90, 91, 92, 93, 94, 95, 96, 97, 98, 99, 100, 101, 102, 103, 104, 105, 106, 107, 108, 109, 110, 111, 112, 113, 114, 115, 116, 117, 118, 119, 120, 121, 122, 123, 124, 125, 126, 127] (fun _ _ _ _ _ _ _ _ _ _ _ _ _ _ _ _ _ _ _ _ _ _ _ _ _ _ _ _ _ _ _ _ _ _ _ _ _ _ sl wx => sl = .bool false ∧ wx = wr)
      case first => as_aux_lemma =>
        by_cases hz : xs.length = 0
        · have d2 : at_ < 0 := by omega
          have d3 : ((xs.length : Int) == 0) = true := by rw [hz]; rfl
          have d4 : ¬ (0 : Int) ≤ at_ := by omega
          clear hms hz
          go_wp2_with (first
            | (go_at_call_of 10 (Value.float FloatKind.f64 N); refine (cS1 _).mono ?_; rintro e w' ⟨rfl, h'⟩; subst w')
            | (go_at_call_of 10 (Value.float FloatKind.f64 sz); refine (cS2 _).mono ?_; rintro e w' ⟨rfl, h'⟩; subst w'))
          go_meet
          exact ⟨rfl, rfl⟩
        · have d5 : 0 ≤ at_ := by
            rcases Int.lt_or_le at_ 0 with c | c
            · have := (hms.1 c).2 0 (by omega)
              rw [hNN.out 0 (by omega)] at this; cases this
            · exact c
          obtain ⟨a, ha⟩ := Int.eq_ofNat_of_zero_le d5
          obtain ⟨a1, a2, a3⟩ := hms.2.1 a ha
          subst ha
          rcases hr with h | ⟨b, off, rfl, hcc⟩
          · omega
          have g1 := hcc a a1
          have hx := hF.at a1
          generalize xs.getD a 0 = x at *
          have cb := abs_any x hx
          rw [← a3] at cb
          have nz := ord_self sz (by omega)
          rw [nan_small mb3] at nz
          have d2 : ¬ (a : Int) < 0 := by omega
          have d3 : ((xs.length : Int) == 0) = false := by rw [beq_eq_false_iff_ne]; omega
          have d4 : (0 : Int) ≤ (a : Int) := by omega
          have d6 : (a : Int) < (xs.length : Int) := by omega
          clear hcc a3 hms hz
          go_wp2_with (first
            | (go_at_call 8; refine (cb _).mono ?_; rintro e w' ⟨rfl, h'⟩; subst w')
            | (go_at_call_of 10 (Value.float FloatKind.f64 N); refine (cS1 _).mono ?_; rintro e w' ⟨rfl, h'⟩; subst w')
            | (go_at_call_of 10 (Value.float FloatKind.f64 sz); refine (cS2 _).mono ?_; rintro e w' ⟨rfl, h'⟩; subst w'))
          go_meet
          exact ⟨rfl, rfl⟩
      obtain ⟨rfl, rfl⟩ := hcut
      clear leqf cS1 cS2 d1 hms hNN
      as_aux_lemma =>
      cases fl
      · have eN := HI.out rfl
        subst eN
        clear HI HA HV
        go_wp2_with (go_at_call 11; refine (isinf_yes _).mono ?_; rintro e w' ⟨rfl, h'⟩; subst w')
        go_ret
        exact ⟨rfl, HB⟩
      · have hA := HA.out rfl
        have hzf := szL_fin hA
        have hzl := szL_len xs
        have fx : ∀ k, k < xs.length → finB (rung (xs.getD k 0)) = true := fun k hk => by
          have := fin_at hA hk
          unfold finB at this ⊢
          rw [rung_rung]; exact this
        obtain ⟨K, hK⟩ : ∃ K : Nat, K = 64462 := ⟨_, rfl⟩
        obtain ⟨S, hS⟩ : ∃ S, sI (szL xs) xs.length = S := ⟨_, rfl⟩
        have hbS : bl S.natAbs ≤ 3000 := by rw [← hS]; exact sI_bl hzf (by omega) (by omega)
        have sq : ∀ k, k ≤ xs.length → rightB (sD (szL xs) k) = true ∧ Lm (sD (szL xs) k).mag ∧ qd (sD (szL xs) k) = sI (szL xs) k * 2 ^ K := fun k hk => sD_qd hzf (by omega) (by omega) hK
        obtain ⟨T, hT0, hTA, hTL, hTD, hTE⟩ : ∃ T : Nat → Dy, T 0 = dy0 ∧ (∀ k, k < xs.length → addD (T k) (ofD (rung (xs.getD k 0))).1 = (T (k + 1), 0)) ∧ (∀ k, k ≤ xs.length → Lm (T k).mag) ∧ Dq (T xs.length) (S * 2 ^ K) ∧ -1074 ≤ (T xs.length).exp := by
          refine ⟨sD (szL xs), sD_zero _, fun k hk => ?_, fun k hk => (sq k hk).2.1, ?_, sD_exp _ _⟩
          · have := sD_add hzf (by omega) (k := k) (by omega)
            rw [szL_at] at this
            exact this
          · obtain ⟨q1, q2, q3⟩ := sq xs.length (Nat.le_refl _)
            exact ⟨q1, q2, by rw [q3, hS]⟩
        rw [hS] at HV
        clear hS sq hzf hzl HI HA
        go_wp2
        go_loopg [7, 10, 11] xs.length (fun g e i _ wr => ∃ (k : Nat) (so : Option Addr) (sc : Nat), k ≤ xs.length ∧ g = xs.length - k ∧ e = .int .i64 0 ∧ i = .int .i64 k ∧ Hid (Hd wr P (T k) so sc) ∧ Hid (Fz wr P) ∧ Hid (Below w.heap.size w wr))
        case atStart => exact ⟨0, so, sc, Nat.zero_le _, rfl, rfl, rfl, (show Hd _ _ _ _ _ by rw [hT0]; exact hP), hZ, HB⟩
        case round =>
          clear hP hZ HB hr
          obtain ⟨k, so, sc, hk, hg, rfl, rfl, hP, hZ, HB⟩ := hrel
          have HG : Hid (gk = xs.length - k) := hg
          clear hg
          by_cases hlt : k < xs.length
          · as_aux_lemma =>
            have hrr := hrw.out.below HB.out
            rcases hrr with h | ⟨b, off, rfl, hcc⟩
            · omega
            have g1 := hcc k hlt
            have hx := hF.at hlt
            have i1 : (k : Int) < (xs.length : Int) := by omega
            have ho := (fq_qd (fx k hlt) hK).1
            have hol := (fq_qd (fx k hlt) hK).2.2.1
            have hta := hTA k hlt
            have htl := hTL k hk
            generalize xs.getD k 0 = x at *
            have cb := abs_any x hx
            have co := fun W h => Of_any (rung x) (vrung64 x) W h
            obtain ⟨⟨D, de⟩, hD⟩ : ∃ q, ofD (rung x) = q := ⟨_, rfl⟩
            rw [hD] at ho hol hta co
            dsimp only at ho hol hta
            subst ho
            have HPl : P < wr.heap.size := World.block_lt_of_cell? wr _ hP.out.c0
            have HT := tabW_below hT HB.out
            have ca := fun ao bo cap bcap W h1 h2 h3 => Add_any (T k) D ao bo cap bcap W h1 h2 htl hol h3
            rw [hta] at ca
            clear hcc hTA hTL hD
            go_upto_region 26 with fail
            go_cut [143, 144, 145, 146, 147, 148, 142, 149, 150, 7] from 132 to 158 (fun _ _ _ _ _ _ _ _ _ e wx => ∃ ax cx, e = .int .i64 0 ∧ Hid (Hd wx wr.heap.size D ax cx) ∧ Hid (Below wr.heap.size wr wx))
            case first => as_aux_lemma =>
              have HQ0 : Hd (wr.alloc (.cells #[.bool false, .slice none 0 0, .int .i64 0] 30)) wr.heap.size dy0 none 0 := Hd.new (d := dy0) (Or.inl rfl)
              have FQ0 : Fz (wr.alloc (.cells #[.bool false, .slice none 0 0, .int .i64 0] 30)) wr.heap.size := ⟨by go_simp, by go_simp, by go_simp⟩
              have BQ0 : Below wr.heap.size wr (wr.alloc (.cells #[.bool false, .slice none 0 0, .int .i64 0] 30)) := (Below.refl _ _).alloc (Nat.le_refl _) _
              have g2 : (wr.alloc (.cells #[.bool false, .slice none 0 0, .int .i64 0] 30)).cell? ⟨b, off + k, none⟩ = some (.float .f64 x) := by rw [BQ0.cell (World.block_lt_of_cell? wr _ g1)]; exact g1
              go_wp2_with (first
                | (go_at_call 8; refine (cb _).mono ?_; rintro e w' ⟨rfl, h'⟩; subst w')
                | (go_at_call 12; refine (co _ (tabW_below HT BQ0)).mono ?_; rintro e x1 ⟨ax, cx, rfl, r1, fr1, y1⟩; have HQ := HQ0.below y1; have FQ := FQ0.below (by simp) y1; have k0 := HQ.c0; have k1 := HQ.c1; have k2 := HQ.c2; obtain ⟨f0, f1, f2⟩ := FQ; have FQ := FQ0.below (by simp) y1))
              go_meet
              have P3 := put3 (B := wr.heap.size + 1) (c := cx) (E := D) HQ FQ r1 (fr1.mono (by simp)) (by omega)
              have B1 := bthen BQ0 y1
              exact ⟨ax, cx, rfl, P3.1, ((B1.setCell (Nat.le_refl _) _).setCell (Nat.le_refl _) _).setCell (Nat.le_refl _) _⟩
            obtain ⟨ax, cx, rfl, HQ, BQ⟩ := hcut
            have HS := hP.out.below BQ.out
            have ZS := hZ.out.below HPl BQ.out
            have BW := bthen HB.out BQ.out
            have HQ1 := HQ.out
            have TW := tabW_below hT BW
            have HPc : P < wc.heap.size := World.block_lt_of_cell? wc _ HS.c0
            have k0 := HS.c0
            have k1 := HS.c1
            have k2 := HS.c2
            have l0 := HQ1.c0
            have l1 := HQ1.c1
            have l2 := HQ1.c2
            go_wp2_with (go_at_call 13; refine (ca _ _ _ _ _ HS.row HQ1.row TW).mono ?_; rintro e x2 ⟨ae, cae, rfl, r2, fr2, y2⟩; have H2 := HS.below y2; have k0 := H2.c0; have k1 := H2.c1; have k2 := H2.c2; have Z2 := ZS.below HPc y2; obtain ⟨f0, f1, f2⟩ := Z2; have Z2 := ZS.below HPc y2)
            have P3 := put3 (c := cae) (E := T (k + 1)) H2 Z2 r2 fr2 HPc
            have B2 := bthen BW y2
            go_roundg (xs.length - (k + 1))
            case measure => rw [HG.out]; omega
            case rel => exact ⟨k + 1, ae, cae, by omega, rfl, rfl, by go_num, P3.1, P3.2, ((B2.setCell lP _).setCell lP _).setCell lP _⟩
          · have ek : k = xs.length := by omega
            subst ek
            have i1 : ¬ (xs.length : Int) < (xs.length : Int) := by omega
            clear hTA
            cases hfN : finB N
            · have cf := fin_no N (by omega) hfN
              have HBo := HB.out
              go_wp2_with (go_at_call 9; refine (cf _).mono ?_; rintro e w' ⟨rfl, h'⟩; subst w')
              go_ret
              exact ⟨rfl, HBo.drew⟩
            · as_aux_lemma =>
              have cf := fin_yes N (by omega) hfN
              have hNl : N < 9218868437227405312 := by
                unfold finB at hfN
                have := of_decide_eq_true hfN
                rw [rung_small (by omega)] at this
                exact this
              obtain ⟨v1, v2⟩ := HV.out hNl
              obtain ⟨n1, n2, n3, n4⟩ := fq_qd hfN hK
              rw [vI_pos (show N ≤ infW by rw [eI]; omega)] at n4
              obtain ⟨sd, s1, s2, s3, s4⟩ := scale_down hTD hTE
              obtain ⟨ab, a1, a2, a3, a4⟩ := above_told hK hTD s2 s4 hbS
              have co := fun W h => Of_any N (by omega) W h
              obtain ⟨⟨D, de⟩, hD⟩ : ∃ q, ofD N = q := ⟨_, rfl⟩
              rw [hD] at n1 n2 n3 n4 co
              dsimp only at n1 n2 n3 n4
              subst n1
              have TL := hTD.2.1
              have c1 := fun W h => scale_any (T xs.length) (-39) so sc W h TL
              rw [s1] at c1
              have c2 := fun bo bcap W h1 h2 h3 => Add_any (T xs.length) sd so bo sc bcap W h1 h2 TL s3 h3
              rw [a1] at c2
              have c3 := fun bo bcap W h1 h2 => Cmp_right (T xs.length) D so bo sc bcap W h1 h2 TL n3 hTD.1 n2
              have c4 := fun ao bo cap bcap W h1 h2 => Cmp_right D ab ao bo cap bcap W h1 h2 n3 a3 n2 a2
              have hp : (0 : Int) < 2 ^ K := pow_pos_int K
              have q1 : sgI (qd (T xs.length) - qd D) ≤ 0 := sg_le (by
                rw [hTD.2.2, n4, ← Int.sub_mul]
                have := Int.mul_nonneg (show 0 ≤ (val N : Int) - S by omega) (Int.le_of_lt hp)
                rw [Int.sub_mul] at this ⊢
                omega)
              have q2 : sgI (qd D - qd ab) ≤ 0 := sg_le (by
                have h5 := Int.mul_nonneg (show 0 ≤ S * 549755813889 - (val N : Int) * 549755813888 by omega) (Int.le_of_lt hp)
                rw [Int.sub_mul, ← a4] at h5
                rw [n4]
                have h6 : (val N : Int) * 549755813888 * 2 ^ K = (val N : Int) * 2 ^ K * 549755813888 := by ac_rfl
                rw [h6] at h5
                generalize (val N : Int) * 2 ^ K = Y at *
                generalize qd ab = Z at *
                omega)
              generalize sgI (qd (T xs.length) - qd D) = G1 at *
              generalize sgI (qd D - qd ab) = G2 at *
              clear v1 v2 HV hTL hTD hTE s1 s2 s4 a1 a2 a4 n2 n4 hD hp
              go_upto_region 33 with (go_at_call 9; refine (cf _).mono ?_; rintro e w' ⟨rfl, h'⟩; subst w')
              go_cut [165, 166, 164, 167, 168, 12, 7] (fun _ _ _ _ _ p e wx => ∃ Q so1 sc1, p = .pointer (some ⟨Q, 0, none⟩) ∧ e = .int .i64 0 ∧ Hid (Hd wx Q D so1 sc1) ∧ Hid (Hd wx P (T xs.length) so sc) ∧ Hid (Below w.heap.size w wx))
              case first =>
                have HTz := tabW_below hT HB.out
                go_wp2_with (go_at_call 12; refine (co _ HTz).mono ?_; rintro e x1 ⟨ax, cx, rfl, r1, _, y1⟩)
                go_meet
                have B1 := bthen HB.out y1
                exact ⟨x1.heap.size, ax, cx, rfl, rfl, Hd.new (d := D) r1, (hP.out.below y1).below (below_al _ _), B1.alloc B1.size _⟩
              obtain ⟨Q, so1, sc1, rfl, rfl, HQ, HP, HB1⟩ := hcut
              obtain ⟨v0, hv0⟩ : ∃ v, v = wc := ⟨_, rfl⟩
              subst hv0
              clear hP hZ HB co
              go_upto_region 34 with fail
              go_cut [170, 171, 169, 172, 173, 13, 14] (fun _ _ _ _ _ p e wx => ∃ R so2 sc2, p = .pointer (some ⟨R, 0, none⟩) ∧ e = .int .i64 0 ∧ Hid (Hd wx R sd so2 sc2) ∧ Hid (Fz wx R) ∧ v0.heap.size ≤ R ∧ Hid (Below v0.heap.size v0 wx))
              case first =>
                have k0 := HP.out.c0
                have k1 := HP.out.c1
                have k2 := HP.out.c2
                go_wp2_with (go_at_call 14; refine (c1 _ HP.out.row).mono ?_; rintro e x1 ⟨ax, cx, rfl, r1, _, y1⟩)
                go_meet
                exact ⟨x1.heap.size, ax, cx, rfl, rfl, Hd.new (d := sd) r1, (show Fz _ _ from ⟨by go_simp, by go_simp, by go_simp⟩), y1.size, y1.alloc y1.size _⟩
              obtain ⟨R, so2, sc2, rfl, rfl, HR, ZR2, lR, BV⟩ := hcut
              obtain ⟨v1, hv1⟩ : ∃ v, v = wc := ⟨_, rfl⟩
              subst hv1
              clear c1
              go_upto_region 37 with fail
              go_cut [181, 182, 183, 180, 184, 185, 7] (fun _ _ _ _ _ _ e wx => ∃ so3 sc3, e = .int .i64 0 ∧ Hid (Hd wx R ab so3 sc3) ∧ Hid (Below v0.heap.size v0 wx))
              case first =>
                have HPv := HP.out.below BV.out
                have HRv := HR.out
                have HRl : R < v1.heap.size := World.block_lt_of_cell? v1 _ HRv.c0
                have k0 := HPv.c0
                have k1 := HPv.c1
                have k2 := HPv.c2
                have l0 := HRv.c0
                have l1 := HRv.c1
                have l2 := HRv.c2
                have TW := tabW_below hT (bthen HB1.out BV.out)
                go_wp2_with (go_at_call 13; refine (c2 _ _ _ HPv.row HRv.row TW).mono ?_; rintro e x2 ⟨ae, cae, rfl, r2, fr2, y2⟩; have H2 := HRv.below y2; have l0 := H2.c0; have l1 := H2.c1; have l2 := H2.c2; have Z2 := ZR2.out.below HRl y2; obtain ⟨f0, f1, f2⟩ := Z2; have Z2 := ZR2.out.below HRl y2)
                go_meet
                have P3 := put3 (c := cae) (E := ab) H2 Z2 r2 fr2 HRl
                have B2 := bthen BV.out y2
                exact ⟨ae, cae, rfl, P3.1, ((B2.setCell lR _).setCell lR _).setCell lR _⟩
              obtain ⟨so3, sc3, rfl, HR3, BV3⟩ := hcut
              have HPw := HP.out.below BV3.out
              have HQw := HQ.out.below BV3.out
              have HRw := HR3.out
              have HBw := bthen HB1.out BV3.out
              have k0 := HPw.c0
              have k1 := HPw.c1
              have k2 := HPw.c2
              have l0 := HQw.c0
              have l1 := HQw.c1
              have l2 := HQw.c2
              go_upto_region 39 with (go_at_call 15; refine (c3 _ _ _ HPw.row HQw.row).mono ?_; rintro e x3 ⟨rfl, b3⟩)
              have HQx := HQw.below b3
              have HRx := HRw.below b3
              have HBx := bthen HBw b3
              have k0 := HQx.c0
              have k1 := HQx.c1
              have k2 := HQx.c2
              have l0 := HRx.c0
              have l1 := HRx.c1
              have l2 := HRx.c2
              go_wp2_with (go_at_call 15; refine (c4 _ _ _ _ _ HQx.row HRx.row).mono ?_; rintro e x4 ⟨rfl, b4⟩)
              go_ret
              exact ⟨rfl, bthen HBx b4⟩
end Go.Proofs.YtmffalpckdkabaaDoor
