/- MatrixTells: its walk. -/
import Derived.Test.YtnbdhbmiiplmbaaXm2
import Derived.Test.YtnbdhbmiiplmbaaXm7
import Derived.Test.YtnbdhbmiiplmbaaXm4
namespace Go.Proofs.Ytnbdhbmiiplmbaa
open Go.RowKit

theorem nought_read (sb : Bool) : Ieee.double.read (Ieee.double.word sb 0) = .number sb (mg 0) (-1074 + (up 0 : Nat)) := by
  cases sb <;> kernel_rfl
theorem nought_sign (V : Nat) (sb : Bool) : (if (V : Int) = 0 then false && sb else decide ((V : Int) < 0)) = false := by
  split
  · rfl
  · exact decide_eq_false (by omega)
theorem nought_end (s : Nat) (hs : s < 9218868437227405312) (sb : Bool) (V : Nat) (hV : mg s * 2 ^ up s = V) : Ieee.double.nearest (if (V : Int) = 0 then false && sb else decide ((V : Int) < 0)) (V : Int).natAbs (-1074 + ((0 : Nat) : Int)) = s := by
  rw [nought_sign, Int.natAbs_natCast]
  by_cases h0 : s = 0
  · have m0 : mg 0 = 0 := by decide
    rw [h0, m0, Nat.zero_mul] at hV
    rw [← hV, h0]
    rfl
  · have hp : -1074 + ((0 : Nat) : Int) + (up s : Nat) = ((up s : Nat) : Int) - 1074 := by omega
    have hv := nearest_val false V (-1074 + ((0 : Nat) : Int)) (mg s) (up s) (mg_lt _) (mg_ne h0) (mg_up_ok _) (Or.inr ⟨up s, hp, hV.symm⟩)
    rw [hv, word_pos]
    have h3 := rung_mg s
    generalize up s * 4503599627370496 + mg s = T at *
    omega
/-- A float not below 0, and a nought of either sign: it stays. -/
theorem add_noughtF {s : Nat} (hs : s < 9218868437227405312) (sb : Bool) : floatBits .add .f64 s (Ieee.double.word sb 0) = some s := by
  have fs : finB s = true := by unfold finB; rw [rung_small (by omega)]; simpa using hs
  have e1 : rung s = s := rung_small (by omega)
  have u0 : up 0 = 0 := by decide
  have m0 : mg 0 = 0 := by decide
  rw [(fbits_map s (Ieee.double.word sb 0)).1, read_fin (by omega) fs, nought_read, sgn_small (by omega), sum_val, u0, m0, e1, Nat.min_zero, Nat.sub_zero]
  have hz : Ieee.signed sb 0 (0 - 0) = 0 := by cases sb <;> rfl
  have hp : Ieee.signed false (mg s) (up s) = ((mg s * 2 ^ up s : Nat) : Int) := by unfold Ieee.signed; simp [Int.shiftLeft_eq]
  rw [hz, Int.add_zero, hp]
  simp only [Option.map_some, Ieee.Format.write, Option.some.injEq]
  exact nought_end s hs sb _ rfl
theorem sub_self' {s : Nat} (hs : s < 9218868437227405312) : floatBits .sub .f64 s s = some 0 := by
  have fs : finB s = true := by unfold finB; rw [rung_small (by omega)]; simpa using hs
  rw [(fbits_map s s).2.1, read_fin (by omega) fs, sgn_small (by omega)]
  show ((Ieee.Datum.sum (.number false _ _) (.number true _ _))).map _ = _
  rw [sum_val, Nat.min_self, Nat.sub_self]
  have : Ieee.signed false (mg (rung s)) 0 + Ieee.signed true (mg (rung s)) 0 = 0 := by unfold Ieee.signed; simp; omega
  rw [this]
  rfl
theorem adU_nought {s : Nat} (hs : s ≤ 9218868437227405312) : adU s (Ieee.double.word true 0) = adU s (Ieee.double.word false 0) := by
  have fb : ∀ sb, finB (Ieee.double.word sb 0) = true := fun sb => by cases sb <;> decide
  have lb : ∀ sb, Ieee.double.word sb 0 < 18446744073709551616 := fun sb => by cases sb <;> decide
  unfold adU
  rw [fb, fb]
  rcases Nat.lt_or_ge s 9218868437227405312 with h | h
  · have fs : finB s = true := by unfold finB; rw [rung_small (by omega)]; simpa using h
    rw [fs]
    simp only [Bool.and_self, if_true, Option.some.injEq]
    have n1 : ∀ sb, sumN s (Ieee.double.word sb 0) = s := fun sb => by unfold sumN; rw [add_noughtF h]; rfl
    have c1 : ∀ sb, sumC s (Ieee.double.word sb 0) = false := fun sb => by
      have r0 : rung (Ieee.double.word sb 0) = 0 := (word_rung sb (by omega)).1
      unfold sumC
      rw [r0, rung_small (by omega)]
      rw [ord_num (by omega) (by omega) (nan_small (by omega)) (by decide), place_small (by omega), place_small (by omega), cmp_int, if_neg (by omega)]
      split <;> rfl
    have t1 : ∀ sb, sumT s (Ieee.double.word sb 0) = 0 := fun sb => by
      unfold sumT
      rw [c1, n1]
      show (floatBits .sub .f64 s s).getD 0 = 0
      rw [sub_self' h]
      rfl
    have r1 : ∀ sb, signF (sumR s (Ieee.double.word sb 0)) = 0 := fun sb => by
      unfold sumR
      rw [c1, t1]
      cases sb <;> kernel_rfl
    unfold addV addM
    rw [n1, n1, r1, r1]
    by_cases h0 : s = 0
    · subst h0; rfl
    · have e : (rung s == 0) = false := by rw [rung_small (by omega)]; simpa using h0
      rw [e]
      rfl
  · have e : s = 9218868437227405312 := by omega
    have fs : finB s = false := by unfold finB; rw [rung_small (by omega)]; simp; omega
    rw [fs]
    simp only [Bool.false_and, Bool.false_eq_true, if_false]
    rw [add_inf_l (by omega) (by rw [rung_small (by omega)]; exact e) (lb _) (fb _), add_inf_l (by omega) (by rw [rung_small (by omega)]; exact e) (lb _) (fb _)]
/-- The size as the document takes it: turned about, if it is below 0. -/
def szF (x : Nat) : Nat := if FloatKind.f64.format.order x 0 == some .lt then negW x else x
theorem szF_add {s x : Nat} (hs : s ≤ 9218868437227405312) (hx : x < 18446744073709551616) (fx : finB x = true) : adU s (szF x) = adU s (rung x) ∧ szF x < 18446744073709551616 := by
  have hrx := mfin_rung fx
  have nx : nanB x = false := by unfold nanB; simp; omega
  have hw := word_of hx
  unfold szF
  rw [lt_num hx (by omega) nx (by decide)]
  cases hsg : sgn x
  · have e : x = rung x := by rw [hsg, word_pos] at hw; exact hw
    have hp : ¬ place x < place 0 := by rw [e, place_small (by omega), place_small (by omega)]; omega
    rw [decide_eq_false hp, if_neg (by decide), ← e]
    exact ⟨rfl, hx⟩
  · by_cases h0 : rung x = 0
    · rw [h0] at hw
      rw [hsg] at hw
      have hp : ¬ place x < place 0 := by rw [hw]; decide
      rw [decide_eq_false hp, if_neg (by decide), h0]
      refine ⟨?_, hx⟩
      rw [hw]
      exact adU_nought hs
    · have hp : place x < place 0 := by
        unfold place
        rw [hsg]
        have s0 : sgn 0 = false := by decide
        rw [s0]
        simp
        omega
      rw [decide_eq_true hp, if_pos rfl]
      have hn := neg_rung hx
      have hl := negW_lt hx
      have e : negW x = rung x := by
        have h2 := word_of hl
        rw [hn.1, hn.2, hsg] at h2
        exact h2
      rw [e]
      exact ⟨rfl, by omega⟩
theorem nrO_row {C : Nat} {xs : List Nat} {i j s r : Nat} (hj : j < C) (h : nrO (rowL C xs i) j = some s) (hs : s ≤ 9218868437227405312) (hx : xs.getD (i * C + j) 0 < 18446744073709551616) (fx : finB (xs.getD (i * C + j) 0) = true) (hr : NR (adU s (szF (xs.getD (i * C + j) 0))) r) : nrO (rowL C xs i) (j + 1) = some r ∧ r ≤ 9218868437227405312 := by
  obtain ⟨v, h1, h2⟩ := adU_pos hs (mfin_rung fx)
  rw [(szF_add hs hx fx).1, h1] at hr
  have e : r = v := hr.2
  subst e
  refine ⟨?_, h2⟩
  show (nrO (rowL C xs i) j).bind _ = _
  rw [h, rowL_at hj]
  exact h1
theorem neg_float {P : Program} (b : Nat) (w : World) : (Op.unary .neg (.float .f64 b) : Sem Value).run P w = .ok (.float .f64 (negW b)) w := rfl
set_option maxRecDepth 100000 in
set_option maxHeartbeats 4000000 in
theorem rnormM_any (r c : Int) (xs : List Nat) (ao : Option Addr) (cap : Nat) (w : World) (hr : GRow w ao xs) (hF : FW xs) :
    Calls Try.prog 32 #[mxV r c ao xs.length cap] w fun e w' => e = .returned (.tuple #[.float .f64 (nmA r c xs).1, .int .i64 (nmA r c xs).2]) ∧ Below w.heap.size w w' := by
  have c1 := fun w => rright_any r c ao xs.length cap w
  unfold nmA
  cases q1 : rightM r c xs.length
  · rw [q1] at c1
    rw [if_neg (by decide)]
    generalize xs.length = n at *
    go_enter Try.func32, Try.ntmps32
    go_wp2_with (go_at_call 24; refine (c1 _).mono ?_; rintro e w1 ⟨rfl, b1⟩)
    exact bodyPost_ret (v := .tuple #[.float .f64 0, .int .i64 4]) (by simp [results, Try.results32, go_sem]) rfl ⟨rfl, old_one b1⟩
  rw [q1] at c1
  obtain ⟨R, C, rfl, rfl, hR, hC, hl⟩ := rightM_nat q1
  rw [if_pos rfl]
  simp only [Int.toNat_natCast]
  clear q1
  have HX : Hid (xs.length = R * C) := hl
  have hm := mul48 hR hC
  rw [← hl] at hm
  clear hl
  obtain ⟨n, hn⟩ : ∃ n, xs.length = n := ⟨_, rfl⟩
  have HXn : Hid (xs.length = n) := hn
  rw [hn] at c1 hm ⊢
  clear hn
  cases hfl : finL xs
  · have HFL : Hid (finL xs = false) := hfl
    clear hfl
    simp only [Bool.false_eq_true, if_false]
    go_enter Try.func32, Try.ntmps32
    go_upto_region 3 with (go_at_call 24; refine (c1 _).mono ?_; rintro e w1 ⟨rfl, b1⟩; have bb := old_one b1; have MB := (B3.new _ _ _ _ _).below b1; have a0 := MB.1; have a1 := MB.2.1; have a2 := MB.2.2.1)
    go_wp2
    go_loopg [4] n (fun g i wr => ∃ k : Nat, k ≤ n ∧ g = n - k ∧ i = .int .i64 k ∧ Hid (∀ j, j < k → finB (xs.getD j 0) = true) ∧ wr = w1)
    case atStart => exact ⟨0, Nat.zero_le _, rfl, rfl, fun j hj => by omega, rfl⟩
    case round =>
      obtain ⟨k, hk, hg, rfl, hfin, rfl⟩ := hrel
      have HG : Hid (gk = n - k) := hg
      clear hg
      by_cases hlt : k < n
      · have hlt' : k < xs.length := by rw [HXn.out]; exact hlt
        rcases hr.below bb with h | ⟨b, off, rfl, hc⟩
        · rw [h] at hlt'; omega
        have g1 := hc k hlt'
        have hx := hF.at hlt'
        have HF0 : Hid (finB (xs.getD k 0) = true → ∀ j, j < k + 1 → finB (xs.getD j 0) = true) := fun h j hj => by
          by_cases e : j = k
          · subst e; exact h
          · exact hfin.out j (by omega)
        have cf := fun w => rfinite_any (xs.getD k 0) hx w
        generalize xs.getD k 0 = x at *
        have i1 : (k : Int) < (n : Int) := by omega
        clear hlt' hc
        cases hq : finB x
        · rw [hq] at cf
          go_wp2_with (go_at_call 66; refine (cf _).mono ?_; rintro e w' ⟨rfl, h'⟩; subst w')
          exact bodyPost_ret (v := .tuple #[.float .f64 0, .int .i64 5]) (by simp [results, Try.results32, go_sem]) rfl ⟨rfl, bb⟩
        · rw [hq] at cf
          go_wp2_with (go_at_call 66; refine (cf _).mono ?_; rintro e w' ⟨rfl, h'⟩; subst w')
          go_roundg (n - (k + 1))
          case measure => rw [HG.out]; omega
          case rel => exact ⟨k + 1, by omega, rfl, by go_num, HF0.out hq, rfl⟩
      · exfalso
        have h1 := finL_yes (xs := xs) (fun j hj => hfin.out j (by rw [HXn.out] at hj; omega))
        rw [HFL.out] at h1
        cases h1
  · have HFL : Hid (finL xs = true) := hfl
    clear hfl
    simp only [if_true]
    go_enter Try.func32, Try.ntmps32
    go_upto_region 3 with (go_at_call 24; refine (c1 _).mono ?_; rintro e w1 ⟨rfl, b1⟩; have bb := old_one b1; have MB := (B3.new _ _ _ _ _).below b1; have a0 := MB.1; have a1 := MB.2.1; have a2 := MB.2.2.1)
    go_wp2
    go_loopg [4] n (fun g i wr => ∃ k : Nat, k ≤ n ∧ g = n - k ∧ i = .int .i64 k ∧ Hid (∀ j, j < k → finB (xs.getD j 0) = true) ∧ wr = w1)
    case atStart => exact ⟨0, Nat.zero_le _, rfl, rfl, fun j hj => by omega, rfl⟩
    case round =>
      obtain ⟨k, hk, hg, rfl, hfin, rfl⟩ := hrel
      have HG : Hid (gk = n - k) := hg
      clear hg
      by_cases hlt : k < n
      · have hlt' : k < xs.length := by rw [HXn.out]; exact hlt
        rcases hr.below bb with h | ⟨b, off, rfl, hc⟩
        · rw [h] at hlt'; omega
        have g1 := hc k hlt'
        have hx := hF.at hlt'
        have hfx := finL_at HFL.out hlt'
        have HF1 : Hid (∀ j, j < k + 1 → finB (xs.getD j 0) = true) := fun j hj => by
          by_cases e : j = k
          · subst e; exact hfx
          · exact hfin.out j (by omega)
        have cf := fun w => rfinite_any (xs.getD k 0) hx w
        rw [hfx] at cf
        generalize xs.getD k 0 = x at *
        have i1 : (k : Int) < (n : Int) := by omega
        clear hlt' hc
        go_wp2_with (go_at_call 66; refine (cf _).mono ?_; rintro e w' ⟨rfl, h'⟩; subst w')
        go_roundg (n - (k + 1))
        case measure => rw [HG.out]; omega
        case rel => exact ⟨k + 1, by omega, rfl, by go_num, HF1, rfl⟩
      · have i1 : ¬ (k : Int) < (n : Int) := by omega
        clear hfin
        go_wp2
        go_loopg [5, 6] R (fun g mm s wr => ∃ i : Nat, i ≤ R ∧ g = R - i ∧ mm = .float .f64 (msN C xs i) ∧ s = .int .i64 i ∧ B3 wr w.heap.size (.int .i64 R) (.int .i64 C) (.slice ao n cap) ∧ Below w.heap.size w wr)
        case atStart => exact ⟨0, Nat.zero_le _, rfl, rfl, rfl, MB, bb⟩
        case round =>
          clear a0 a1 a2 MB bb b1
          obtain ⟨i, hi, hg, rfl, rfl, MB, hb⟩ := hrel
          have HG2 : Hid (gk = R - i) := hg
          clear hg
          have a0 := MB.1
          by_cases hlt2 : i < R
          · have j2 : (i : Int) < (R : Int) := by omega
            generalize wr = wv at *
            go_wp2
            go_loopg [7, 8] C (fun g s q wr => ∃ (j t : Nat), j ≤ C ∧ g = C - j ∧ s = .float .f64 t ∧ q = .int .i64 j ∧ Hid (nrO (rowL C xs i) j = some t ∧ t ≤ 9218868437227405312) ∧ B3 wr w.heap.size (.int .i64 R) (.int .i64 C) (.slice ao n cap) ∧ Below w.heap.size w wr)
            case atStart => exact ⟨0, 0, Nat.zero_le _, rfl, rfl, rfl, ⟨rfl, by omega⟩, MB, hb⟩
            case round =>
              clear MB hb a0
              obtain ⟨j, t, hj, hg, rfl, rfl, hsum, MB, hb⟩ := hrel
              have HG3 : Hid (gk = C - j) := hg
              clear hg
              obtain ⟨a0, a1, a2, _⟩ := id MB
              by_cases hlt3 : j < C
              · have j3 : (j : Int) < (C : Int) := by omega
                have hp : i * C + j < xs.length := by rw [HX.out]; exact at_lt hlt2 hlt3
                have ce := fun W h => rat_any xs R C i j (i * C + j) n cap ao W h (by omega) hC (by omega) rfl hp HXn.out
                have hx := hF.at hp
                have fx := finL_at HFL.out hp
                have HST : Hid (∀ q, NR (adU t (szF (xs.getD (i * C + j) 0))) q → nrO (rowL C xs i) (j + 1) = some q ∧ q ≤ 9218868437227405312) := fun q hq => nrO_row hlt3 hsum.out.1 hsum.out.2 hx fx hq
                have hsz := (szF_add hsum.out.2 hx fx).2
                have ht := hsum.out.2
                generalize xs.getD (i * C + j) 0 = x at *
                have hr' := hr.below hb
                have hng := fun W => neg_float (P := Try.prog) x W
                cases hq : (FloatKind.f64.format.order x 0 == some .lt)
                · have e9 : szF x = x := by unfold szF; rw [hq]; rfl
                  rw [e9] at HST
                  have ca := fun W => dadd_up t x (by omega) hx W
                  clear hp hsum e9 hsz
                  go_wp2_with (first
                    | (go_at_call 63; refine (ce _ hr').mono ?_; rintro e w2 ⟨rfl, b2⟩; have MB2 := MB.below b2; have hb2 := hb.trans (b2.mono hb.size))
                    | (go_at_call 67; refine (ca _).mono ?_; rintro e w3 ⟨q, rfl, nq, b3⟩; have MB3 := MB2.below b3; have hb3 := hb2.trans (b3.mono hb2.size); have HQ : Hid (nrO (rowL C xs i) (j + 1) = some q ∧ q ≤ 9218868437227405312) := HST.out q nq; clear nq))
                  go_roundg (C - (j + 1))
                  case measure => rw [HG3.out]; omega
                  case rel => exact ⟨j + 1, q, by omega, rfl, rfl, by go_num, HQ, MB3, hb3⟩
                · have e9 : szF x = negW x := by unfold szF; rw [hq]; rfl
                  rw [e9] at HST hsz
                  have ca := fun W => dadd_up t (negW x) (by omega) hsz W
                  generalize negW x = nx at *
                  clear hp hsum e9
                  go_wp2_with (first
                    | (go_at_call 63; refine (ce _ hr').mono ?_; rintro e w2 ⟨rfl, b2⟩; have MB2 := MB.below b2; have hb2 := hb.trans (b2.mono hb.size))
                    | (go_at_call 67; refine (ca _).mono ?_; rintro e w3 ⟨q, rfl, nq, b3⟩; have MB3 := MB2.below b3; have hb3 := hb2.trans (b3.mono hb2.size); have HQ : Hid (nrO (rowL C xs i) (j + 1) = some q ∧ q ≤ 9218868437227405312) := HST.out q nq; clear nq))
                  go_roundg (C - (j + 1))
                  case measure => rw [HG3.out]; omega
                  case rel => exact ⟨j + 1, q, by omega, rfl, rfl, by go_num, HQ, MB3, hb3⟩
              · have ej : j = C := by omega
                subst ej
                have j3 : ¬ (j : Int) < (j : Int) := by omega
                have hrw := rwN_is HFL.out HX.out hlt2
                have et : t = rwN j xs i := by
                  have h1 := hsum.out.1
                  rw [hrw.1] at h1
                  exact (Option.some.inj h1).symm
                have hms := msN_le HFL.out HX.out i hi
                have HM : Hid (msN j xs (i + 1) = max (msN j xs i) t) := (show msN j xs (i + 1) = _ by rw [et]; rfl)
                have hgt := size_gt hsum.out.2 hms
                clear hsum et hrw
                generalize msN j xs i = mi at *
                by_cases hc : mi < t
                · rw [decide_eq_true hc] at hgt
                  have HM2 : Hid (msN j xs (i + 1) = t) := (show _ = t by rw [HM.out]; omega)
                  clear HM hc
                  go_wp2
                  go_roundg (R - (i + 1))
                  case measure => rw [HG2.out]; omega
                  case rel => exact ⟨i + 1, by omega, rfl, by rw [HM2.out], by go_num, MB, hb⟩
                · rw [decide_eq_false hc] at hgt
                  have HM2 : Hid (msN j xs (i + 1) = mi) := (show _ = mi by rw [HM.out]; omega)
                  clear HM hc
                  go_wp2
                  go_roundg (R - (i + 1))
                  case measure => rw [HG2.out]; omega
                  case rel => exact ⟨i + 1, by omega, rfl, by rw [HM2.out], by go_num, MB, hb⟩
          · have ei : i = R := by omega
            subst ei
            have j2 : ¬ (i : Int) < (i : Int) := by omega
            go_wp2
            exact bodyPost_ret (v := .tuple #[.float .f64 (msN C xs i), .int .i64 0]) (by simp [results, Try.results32, go_sem]) rfl ⟨rfl, hb⟩
end Go.Proofs.Ytnbdhbmiiplmbaa

namespace Go.Proofs.Ytnbdhbmiiplmbaa
open Go.RowKit

/-- What is done of lending two matrices, whatever the order. -/
structure LendT (w : World) (r c : Int) (xs : List Nat) (ao : Option Addr) (n cap : Nat) (r2 c2 : Int) (ys : List Nat) (bo : Option Addr) (m cap2 : Nat) (L : Array Bool) (w' : World) (v9 v10 v19 v20 v21 v22 : Value) (P7 P8 g1 g2 : Nat) : Prop where
  ma : B3 w' w.heap.size (.int .i64 r) (.int .i64 c) (.slice ao n cap)
  mb : B3 w' (w.heap.size + 1) (.int .i64 r2) (.int .i64 c2) (.slice bo m cap2)
  bel : Below w.heap.size w w'
  d0 : On L 0 → v19 = mxV r c ao n cap
  d1 : On L 1 → v20 = mxV r c (some ⟨g1, 0, none⟩) n (n + 12) ∧ LentF w' g1 xs ∧ w.heap.size + 1 < g1
  d2 : On L 2 → v21 = mxV r2 c2 bo m cap2
  d3 : On L 3 → v22 = mxV r2 c2 (some ⟨g2, 0, none⟩) m (m + 12) ∧ LentF w' g2 ys ∧ w.heap.size + 1 < g2
  d4 : On L 4 → v9 = .pointer (some ⟨P7, 0, none⟩) ∧ (∃ x y z, B3 w' P7 x y z) ∧ w.heap.size + 1 < P7 ∧ (On L 1 → P7 ≠ g1) ∧ (On L 3 → P7 ≠ g2)
  d5 : On L 5 → v10 = .pointer (some ⟨P8, 0, none⟩) ∧ (∃ x y z, B3 w' P8 x y z) ∧ w.heap.size + 1 < P8 ∧ (On L 1 → P8 ≠ g1) ∧ (On L 3 → P8 ≠ g2) ∧ (On L 4 → P7 ≠ P8)
  d6 : On L 6 → B3 w' P7 (.int .i64 r) (.int .i64 c) (.slice (some ⟨g1, 0, none⟩) n (n + 12))
  d7 : On L 7 → B3 w' P8 (.int .i64 r2) (.int .i64 c2) (.slice (some ⟨g2, 0, none⟩) m (m + 12))
  k3 : On L 3 → On L 1
  k6 : On L 6 → On L 1 ∧ On L 3 ∧ On L 4 ∧ On L 5
  k7 : On L 7 → On L 6
/-- What stands in memory behind it: both as they came, both lent; all of it below M. -/
structure TellS (w : World) (r c : Int) (xs : List Nat) (ao : Option Addr) (n cap : Nat) (r2 c2 : Int) (ys : List Nat) (bo : Option Addr) (m cap2 P Q g h M : Nat) (W : World) : Prop where
  ma : B3 W w.heap.size (.int .i64 r) (.int .i64 c) (.slice ao n cap)
  mb : B3 W (w.heap.size + 1) (.int .i64 r2) (.int .i64 c2) (.slice bo m cap2)
  px : B3 W P (.int .i64 r) (.int .i64 c) (.slice (some ⟨g, 0, none⟩) n (n + 12))
  py : B3 W Q (.int .i64 r2) (.int .i64 c2) (.slice (some ⟨h, 0, none⟩) m (m + 12))
  lx : LentF W g xs
  ly : LentF W h ys
  bel : Below w.heap.size w W
  lo : w.heap.size + 1 < M ∧ P < M ∧ Q < M ∧ g < M ∧ h < M
section
variable {w : World} {r c : Int} {xs : List Nat} {ao : Option Addr} {n cap : Nat} {r2 c2 : Int} {ys : List Nat} {bo : Option Addr} {m cap2 P Q g h M : Nat} {W W' : World}
theorem TellS.below (k : TellS w r c xs ao n cap r2 c2 ys bo m cap2 P Q g h M W) (hb : Below W.heap.size W W') : TellS w r c xs ao n cap r2 c2 ys bo m cap2 P Q g h M W' :=
  ⟨k.ma.below hb, k.mb.below hb, k.px.below hb, k.py.below hb, k.lx.below hb, k.ly.below hb, k.bel.trans (hb.mono k.bel.size), k.lo⟩
theorem TellS.put (k : TellS w r c xs ao n cap r2 c2 ys bo m cap2 P Q g h M W) {K : Nat} (hK : M ≤ K) (u v t : Value) : TellS w r c xs ao n cap r2 c2 ys bo m cap2 P Q g h M (((W.setCell ⟨K, 0, none⟩ u).setCell ⟨K, 1, none⟩ v).setCell ⟨K, 2, none⟩ t) := by
  have := k.lo
  exact ⟨k.ma.far3 (by omega) _ _ _, k.mb.far3 (by omega) _ _ _, k.px.far3 (by omega) _ _ _, k.py.far3 (by omega) _ _ _, k.lx.far3 (by omega) _ _ _, k.ly.far3 (by omega) _ _ _, set_three k.bel (by omega) _ _ _, k.lo⟩
end
theorem mkA_len (r c : Int) : (mkA r c).os.length ≤ 2304 := by
  unfold mkA
  split
  · rename_i h
    simp only [Bool.and_eq_true] at h
    obtain ⟨R, rfl, hR⟩ := okN_nat h.1
    obtain ⟨C, rfl, hC⟩ := okN_nat h.2
    simp only [tabM_len, Int.toNat_natCast]
    exact mul48 hR hC
  · exact Nat.zero_le _
theorem idA_len (r : Int) : (idA r).os.length ≤ 2304 := by
  unfold idA
  split
  · rename_i h
    obtain ⟨R, rfl, hR⟩ := okN_nat h
    simp only [tabM_len, Int.toNat_natCast]
    exact mul48 hR hR
  · exact Nat.zero_le _
theorem trA_len (r c : Int) (xs : List Nat) : (trA r c xs).os.length ≤ 2304 := by
  unfold trA
  split
  · rename_i h
    obtain ⟨R, C, rfl, rfl, hR, hC, _⟩ := rightM_nat h
    simp only [tabM_len, Int.toNat_natCast]
    exact mul48 hC hR
  · exact Nat.zero_le _
theorem sbA_len (r c : Int) (xs : List Nat) (r2 c2 : Int) (ys : List Nat) : (sbA r c xs r2 c2 ys).os.length ≤ 2304 := by
  unfold sbA
  split
  · rename_i h
    simp only [Bool.and_eq_true] at h
    obtain ⟨R, C, rfl, rfl, hR, hC, _⟩ := rightM_nat h.1.1
    simp only [tabM_len, Int.toNat_natCast]
    exact mul48 hR hC
  · exact Nat.zero_le _
theorem nmA_lt (r c : Int) (xs : List Nat) : (nmA r c xs).1 < 18446744073709551616 := by
  unfold nmA
  split
  · rename_i h
    obtain ⟨R, C, rfl, rfl, hR, hC, hl⟩ := rightM_nat h
    split
    · rename_i hf
      have := msN_le hf hl R (Nat.le_refl _)
      simp only [Int.toNat_natCast]
      omega
    · exact Nat.lt_of_lt_of_le (show (0 : Nat) < 1 by omega) (by omega)
  · exact Nat.lt_of_lt_of_le (show (0 : Nat) < 1 by omega) (by omega)
set_option maxRecDepth 100000 in
set_option maxHeartbeats 8000000 in
theorem tells_law (r c : Int) (xs : List Nat) (ao : Option Addr) (n cap : Nat) (r2 c2 : Int) (ys : List Nat) (bo : Option Addr) (m cap2 : Nat) (rows cols : Int) (w : World) (hn : Hid (xs.length = n)) (hm : Hid (ys.length = m)) (hr : GRow w ao xs) (hs : GRow w bo ys) (hF : FW xs) (hG : FW ys) (za : ao = none → cap = 0 ∧ xs.length = 0) (zb : bo = none → cap2 = 0 ∧ ys.length = 0) (hxn : n ≤ 17592186044416) (hym : m ≤ 17592186044416) :
    Calls Try.prog 4 #[mxV r c ao n cap, mxV r2 c2 bo m cap2, .int .i64 rows, .int .i64 cols] w fun e w' => e = .returned (.bool true) ∧ Below w.heap.size w w' := by
  have cA := fun W h => lentM_any r c xs ao cap W h za (by rw [hn.out]; omega)
  have cB := fun W h => lentM_any r2 c2 ys bo cap2 W h zb (by rw [hm.out]; exact hym)
  rw [hn.out] at cA
  rw [hm.out] at cB
  go_enter Try.func4, Try.ntmps4
  go_upto_region 1 with fail
  go_cut [19, 20, 21, 22, 9, 10] (fun v19 v20 v21 v22 v9 v10 wx => ∃ P7 P8 g1 g2, v9 = .pointer (some ⟨P7, 0, none⟩) ∧ v10 = .pointer (some ⟨P8, 0, none⟩) ∧ TellS w r c xs ao n cap r2 c2 ys bo m cap2 P7 P8 g1 g2 wx.heap.size wx)
  case first =>
    refine region_inv (by kernel_rfl) (fun L a w' => ∃ v9 v10 v19 v20 v21 v22 P7 P8 g1 g2, a = ⟨#[mxV r c ao n cap, mxV r2 c2 bo m cap2, .int .i64 rows, .int .i64 cols, .pointer (some ⟨w.heap.size, 0, none⟩), .pointer (some ⟨w.heap.size + 1, 0, none⟩), undef, undef, .bool false, v9, v10, undef, undef, undef, undef, undef, undef, undef, undef, v19, v20, v21, v22, undef, undef, undef, undef, undef, undef, undef, undef, undef, undef, undef, undef, undef, undef, undef, undef, undef, undef, undef, undef, undef, undef, undef, undef, undef, undef, undef, undef, undef, undef, undef, undef, undef, undef, undef, undef, undef, undef, undef, undef, undef, undef, undef, undef, undef, undef, undef, undef, undef, undef, undef, undef, undef, undef, undef, undef, undef, undef, undef, undef, undef, undef, undef, undef, undef, undef, undef, undef, undef, undef, undef, undef, undef, undef, undef, undef, undef, undef, undef, undef, undef, undef, undef, undef, undef, undef, undef, undef, undef, undef, undef, undef, undef, undef, undef, undef, undef, undef, undef, undef, undef, undef, undef, undef, undef, undef, undef, undef, undef, undef, undef, undef, undef, undef, undef, undef, undef, undef, undef, undef, undef, undef, undef, undef, undef, undef, undef, undef, undef, undef], []⟩ ∧ LendT w r c xs ao n cap r2 c2 ys bo m cap2 L w' v9 v10 v19 v20 v21 v22 P7 P8 g1 g2) ?_ ?_ ?_
    · refine ⟨undef, undef, undef, undef, undef, undef, 0, 0, 0, 0, rfl, ?_⟩
      have nn : ∀ i, ¬ On (Array.replicate 8 false) i := fun i => on_none
      exact ⟨((B3.new _ _ _ _ _).alloc _).drew, (B3.newAt (by go_simp) _ _ _ _).drew, (old_two (Below.refl _ _)).drew, fun h => absurd h (nn _), fun h => absurd h (nn _), fun h => absurd h (nn _), fun h => absurd h (nn _), fun h => absurd h (nn _), fun h => absurd h (nn _), fun h => absurd h (nn _), fun h => absurd h (nn _), fun h => absurd h (nn _), fun h => absurd h (nn _), fun h => absurd h (nn _)⟩
    · rintro L a w' i hL ⟨v9, v10, v19, v20, v21, v22, P7, P8, g1, g2, rfl, hS⟩ hi
      obtain ⟨h1, h2, h3⟩ := mem_ready hi
      have h1 : i < 8 := h1
      have hL : L.size = 8 := hL
      have hno := not_on (by rw [hL]; exact h1) h2
      have ho := on_set (L := L) (i := i) (by rw [hL]; exact h1)
      have hcs : i = 0 ∨ i = 1 ∨ i = 2 ∨ i = 3 ∨ i = 4 ∨ i = 5 ∨ i = 6 ∨ i = 7 := by omega
      have o : ∀ k, k ≠ i → On (L.setIfInBounds i true) k → On L k := fun k hk h => ((ho k).1 h).resolve_left hk
      have hsz : w.heap.size + 1 < w'.heap.size := hS.mb.2.2.2.2.2.2
      have bx4 : On L 4 → P7 < w'.heap.size := fun h => (hS.d4 h).2.1.elim fun x hx => hx.elim fun y hy => hy.elim fun z hz => hz.2.2.2.2.2.2
      have bx5 : On L 5 → P8 < w'.heap.size := fun h => (hS.d5 h).2.1.elim fun x hx => hx.elim fun y hy => hy.elim fun z hz => hz.2.2.2.2.2.2
      rcases hcs with rfl | rfl | rfl | rfl | rfl | rfl | rfl | rfl
      · obtain ⟨a0, a1, a2, _⟩ := id hS.ma
        refine wpOp_free (fun K hK => ?_)
        unfold wpOp
        go_simp
        refine Or.inl ?_
        refine hK _ _ ⟨_, _, _, _, _, _, P7, P8, g1, g2, rfl, ?_⟩
        exact ⟨hS.ma, hS.mb, hS.bel, fun _ => rfl, fun h => ⟨(hS.d1 (o 1 (by decide) h)).1, (hS.d1 (o 1 (by decide) h)).2.1, (hS.d1 (o 1 (by decide) h)).2.2⟩, fun h => hS.d2 (o 2 (by decide) h), fun h => ⟨(hS.d3 (o 3 (by decide) h)).1, (hS.d3 (o 3 (by decide) h)).2.1, (hS.d3 (o 3 (by decide) h)).2.2⟩, fun h => ⟨(hS.d4 (o 4 (by decide) h)).1, ((hS.d4 (o 4 (by decide) h)).2.1.elim fun x hx => hx.elim fun y hy => hy.elim fun z hz => ⟨x, y, z, hz⟩), (hS.d4 (o 4 (by decide) h)).2.2.1, fun h' => (hS.d4 (o 4 (by decide) h)).2.2.2.1 (o 1 (by decide) h'), fun h' => (hS.d4 (o 4 (by decide) h)).2.2.2.2 (o 3 (by decide) h')⟩, fun h => ⟨(hS.d5 (o 5 (by decide) h)).1, ((hS.d5 (o 5 (by decide) h)).2.1.elim fun x hx => hx.elim fun y hy => hy.elim fun z hz => ⟨x, y, z, hz⟩), (hS.d5 (o 5 (by decide) h)).2.2.1, fun h' => (hS.d5 (o 5 (by decide) h)).2.2.2.1 (o 1 (by decide) h'), fun h' => (hS.d5 (o 5 (by decide) h)).2.2.2.2.1 (o 3 (by decide) h'), fun h' => (hS.d5 (o 5 (by decide) h)).2.2.2.2.2 (o 4 (by decide) h')⟩, fun h => hS.d6 (o 6 (by decide) h), fun h => hS.d7 (o 7 (by decide) h), fun h => (ho 1).2 (Or.inr (hS.k3 (o 3 (by decide) h))), fun h => ⟨(ho 1).2 (Or.inr (hS.k6 (o 6 (by decide) h)).1), (ho 3).2 (Or.inr (hS.k6 (o 6 (by decide) h)).2.1), (ho 4).2 (Or.inr (hS.k6 (o 6 (by decide) h)).2.2.1), (ho 5).2 (Or.inr (hS.k6 (o 6 (by decide) h)).2.2.2)⟩, fun h => (ho 6).2 (Or.inr (hS.k7 (o 7 (by decide) h)))⟩
      · obtain rfl := hS.d0 (ready_dep hi 0 (by kernel_rfl))
        refine wpOp_free (fun K hK => ?_)
        unfold wpOp
        go_simp
        refine Or.inl ?_
        refine (cA _ (hr.below hS.bel)).mono (fun e wq => ?_)
        rintro ⟨gn, rfl, lg, gg, bq⟩
        have bs := bq.size
        refine hK _ _ ⟨_, _, _, _, _, _, P7, P8, gn, g2, rfl, ?_⟩
        exact ⟨(hS.ma).below bq, (hS.mb).below bq, hS.bel.trans (bq.mono hS.bel.size), fun h => hS.d0 (o 0 (by decide) h), fun _ => ⟨rfl, lg, by omega⟩, fun h => hS.d2 (o 2 (by decide) h), fun h => absurd (hS.k3 (o 3 (by decide) h)) hno, fun h => ⟨(hS.d4 (o 4 (by decide) h)).1, ((hS.d4 (o 4 (by decide) h)).2.1.elim fun x hx => hx.elim fun y hy => hy.elim fun z hz => ⟨x, y, z, (hz).below bq⟩), (hS.d4 (o 4 (by decide) h)).2.2.1, fun _ => (by have := bx4 (o 4 (by decide) h); omega), fun h' => (hS.d4 (o 4 (by decide) h)).2.2.2.2 (o 3 (by decide) h')⟩, fun h => ⟨(hS.d5 (o 5 (by decide) h)).1, ((hS.d5 (o 5 (by decide) h)).2.1.elim fun x hx => hx.elim fun y hy => hy.elim fun z hz => ⟨x, y, z, (hz).below bq⟩), (hS.d5 (o 5 (by decide) h)).2.2.1, fun _ => (by have := bx5 (o 5 (by decide) h); omega), fun h' => (hS.d5 (o 5 (by decide) h)).2.2.2.2.1 (o 3 (by decide) h'), fun h' => (hS.d5 (o 5 (by decide) h)).2.2.2.2.2 (o 4 (by decide) h')⟩, fun h => absurd ((hS.k6 (o 6 (by decide) h)).1) hno, fun h => absurd ((hS.k6 (hS.k7 (o 7 (by decide) h))).1) hno, fun h => absurd (hS.k3 (o 3 (by decide) h)) hno, fun h => absurd ((hS.k6 (o 6 (by decide) h)).1) hno, fun h => (ho 6).2 (Or.inr (hS.k7 (o 7 (by decide) h)))⟩
      · obtain ⟨a0, a1, a2, _⟩ := id hS.mb
        refine wpOp_free (fun K hK => ?_)
        unfold wpOp
        go_simp
        refine Or.inl ?_
        refine hK _ _ ⟨_, _, _, _, _, _, P7, P8, g1, g2, rfl, ?_⟩
        exact ⟨hS.ma, hS.mb, hS.bel, fun h => hS.d0 (o 0 (by decide) h), fun h => ⟨(hS.d1 (o 1 (by decide) h)).1, (hS.d1 (o 1 (by decide) h)).2.1, (hS.d1 (o 1 (by decide) h)).2.2⟩, fun _ => rfl, fun h => ⟨(hS.d3 (o 3 (by decide) h)).1, (hS.d3 (o 3 (by decide) h)).2.1, (hS.d3 (o 3 (by decide) h)).2.2⟩, fun h => ⟨(hS.d4 (o 4 (by decide) h)).1, ((hS.d4 (o 4 (by decide) h)).2.1.elim fun x hx => hx.elim fun y hy => hy.elim fun z hz => ⟨x, y, z, hz⟩), (hS.d4 (o 4 (by decide) h)).2.2.1, fun h' => (hS.d4 (o 4 (by decide) h)).2.2.2.1 (o 1 (by decide) h'), fun h' => (hS.d4 (o 4 (by decide) h)).2.2.2.2 (o 3 (by decide) h')⟩, fun h => ⟨(hS.d5 (o 5 (by decide) h)).1, ((hS.d5 (o 5 (by decide) h)).2.1.elim fun x hx => hx.elim fun y hy => hy.elim fun z hz => ⟨x, y, z, hz⟩), (hS.d5 (o 5 (by decide) h)).2.2.1, fun h' => (hS.d5 (o 5 (by decide) h)).2.2.2.1 (o 1 (by decide) h'), fun h' => (hS.d5 (o 5 (by decide) h)).2.2.2.2.1 (o 3 (by decide) h'), fun h' => (hS.d5 (o 5 (by decide) h)).2.2.2.2.2 (o 4 (by decide) h')⟩, fun h => hS.d6 (o 6 (by decide) h), fun h => hS.d7 (o 7 (by decide) h), fun h => (ho 1).2 (Or.inr (hS.k3 (o 3 (by decide) h))), fun h => ⟨(ho 1).2 (Or.inr (hS.k6 (o 6 (by decide) h)).1), (ho 3).2 (Or.inr (hS.k6 (o 6 (by decide) h)).2.1), (ho 4).2 (Or.inr (hS.k6 (o 6 (by decide) h)).2.2.1), (ho 5).2 (Or.inr (hS.k6 (o 6 (by decide) h)).2.2.2)⟩, fun h => (ho 6).2 (Or.inr (hS.k7 (o 7 (by decide) h)))⟩
      · obtain rfl := hS.d2 (ready_dep hi 2 (by kernel_rfl))
        have q1 := ready_dep hi 1 (by kernel_rfl)
        refine wpOp_free (fun K hK => ?_)
        unfold wpOp
        go_simp
        refine Or.inl ?_
        refine (cB _ (hs.below hS.bel)).mono (fun e wq => ?_)
        rintro ⟨gn, rfl, lg, gg, bq⟩
        have bs := bq.size
        refine hK _ _ ⟨_, _, _, _, _, _, P7, P8, g1, gn, rfl, ?_⟩
        exact ⟨(hS.ma).below bq, (hS.mb).below bq, hS.bel.trans (bq.mono hS.bel.size), fun h => hS.d0 (o 0 (by decide) h), fun h => ⟨(hS.d1 (o 1 (by decide) h)).1, ((hS.d1 (o 1 (by decide) h)).2.1).below bq, (hS.d1 (o 1 (by decide) h)).2.2⟩, fun h => hS.d2 (o 2 (by decide) h), fun _ => ⟨rfl, lg, by omega⟩, fun h => ⟨(hS.d4 (o 4 (by decide) h)).1, ((hS.d4 (o 4 (by decide) h)).2.1.elim fun x hx => hx.elim fun y hy => hy.elim fun z hz => ⟨x, y, z, (hz).below bq⟩), (hS.d4 (o 4 (by decide) h)).2.2.1, fun h' => (hS.d4 (o 4 (by decide) h)).2.2.2.1 (o 1 (by decide) h'), fun _ => (by have := bx4 (o 4 (by decide) h); omega)⟩, fun h => ⟨(hS.d5 (o 5 (by decide) h)).1, ((hS.d5 (o 5 (by decide) h)).2.1.elim fun x hx => hx.elim fun y hy => hy.elim fun z hz => ⟨x, y, z, (hz).below bq⟩), (hS.d5 (o 5 (by decide) h)).2.2.1, fun h' => (hS.d5 (o 5 (by decide) h)).2.2.2.1 (o 1 (by decide) h'), fun _ => (by have := bx5 (o 5 (by decide) h); omega), fun h' => (hS.d5 (o 5 (by decide) h)).2.2.2.2.2 (o 4 (by decide) h')⟩, fun h => absurd ((hS.k6 (o 6 (by decide) h)).2.1) hno, fun h => absurd ((hS.k6 (hS.k7 (o 7 (by decide) h))).2.1) hno, fun _ => (ho 1).2 (Or.inr q1), fun h => absurd ((hS.k6 (o 6 (by decide) h)).2.1) hno, fun h => (ho 6).2 (Or.inr (hS.k7 (o 7 (by decide) h)))⟩
      · refine wpOp_free (fun K hK => ?_)
        unfold wpOp
        go_simp
        refine Or.inl ?_
        refine hK _ _ ⟨_, _, _, _, _, _, w'.heap.size, P8, g1, g2, rfl, ?_⟩
        exact ⟨(hS.ma).alloc _, (hS.mb).alloc _, hS.bel.alloc hS.bel.size _, fun h => hS.d0 (o 0 (by decide) h), fun h => ⟨(hS.d1 (o 1 (by decide) h)).1, ((hS.d1 (o 1 (by decide) h)).2.1).below (below_one _ _), (hS.d1 (o 1 (by decide) h)).2.2⟩, fun h => hS.d2 (o 2 (by decide) h), fun h => ⟨(hS.d3 (o 3 (by decide) h)).1, ((hS.d3 (o 3 (by decide) h)).2.1).below (below_one _ _), (hS.d3 (o 3 (by decide) h)).2.2⟩, fun _ => ⟨rfl, ⟨_, _, _, B3.new _ _ _ _ _⟩, by omega, fun h' => (by have := ((hS.d1 (o 1 (by decide) h')).2.1).lt; omega), fun h' => (by have := ((hS.d3 (o 3 (by decide) h')).2.1).lt; omega)⟩, fun h => ⟨(hS.d5 (o 5 (by decide) h)).1, ((hS.d5 (o 5 (by decide) h)).2.1.elim fun x hx => hx.elim fun y hy => hy.elim fun z hz => ⟨x, y, z, (hz).alloc _⟩), (hS.d5 (o 5 (by decide) h)).2.2.1, fun h' => (hS.d5 (o 5 (by decide) h)).2.2.2.1 (o 1 (by decide) h'), fun h' => (hS.d5 (o 5 (by decide) h)).2.2.2.2.1 (o 3 (by decide) h'), fun _ => (by have := bx5 (o 5 (by decide) h); omega)⟩, fun h => absurd ((hS.k6 (o 6 (by decide) h)).2.2.1) hno, fun h => absurd ((hS.k6 (hS.k7 (o 7 (by decide) h))).2.2.1) hno, fun h => (ho 1).2 (Or.inr (hS.k3 (o 3 (by decide) h))), fun h => absurd ((hS.k6 (o 6 (by decide) h)).2.2.1) hno, fun h => (ho 6).2 (Or.inr (hS.k7 (o 7 (by decide) h)))⟩
      · refine wpOp_free (fun K hK => ?_)
        unfold wpOp
        go_simp
        refine Or.inl ?_
        refine hK _ _ ⟨_, _, _, _, _, _, P7, w'.heap.size, g1, g2, rfl, ?_⟩
        exact ⟨(hS.ma).alloc _, (hS.mb).alloc _, hS.bel.alloc hS.bel.size _, fun h => hS.d0 (o 0 (by decide) h), fun h => ⟨(hS.d1 (o 1 (by decide) h)).1, ((hS.d1 (o 1 (by decide) h)).2.1).below (below_one _ _), (hS.d1 (o 1 (by decide) h)).2.2⟩, fun h => hS.d2 (o 2 (by decide) h), fun h => ⟨(hS.d3 (o 3 (by decide) h)).1, ((hS.d3 (o 3 (by decide) h)).2.1).below (below_one _ _), (hS.d3 (o 3 (by decide) h)).2.2⟩, fun h => ⟨(hS.d4 (o 4 (by decide) h)).1, ((hS.d4 (o 4 (by decide) h)).2.1.elim fun x hx => hx.elim fun y hy => hy.elim fun z hz => ⟨x, y, z, (hz).alloc _⟩), (hS.d4 (o 4 (by decide) h)).2.2.1, fun h' => (hS.d4 (o 4 (by decide) h)).2.2.2.1 (o 1 (by decide) h'), fun h' => (hS.d4 (o 4 (by decide) h)).2.2.2.2 (o 3 (by decide) h')⟩, fun _ => ⟨rfl, ⟨_, _, _, B3.new _ _ _ _ _⟩, by omega, fun h' => (by have := ((hS.d1 (o 1 (by decide) h')).2.1).lt; omega), fun h' => (by have := ((hS.d3 (o 3 (by decide) h')).2.1).lt; omega), fun h' => (by have := bx4 (o 4 (by decide) h'); omega)⟩, fun h => absurd ((hS.k6 (o 6 (by decide) h)).2.2.2) hno, fun h => absurd ((hS.k6 (hS.k7 (o 7 (by decide) h))).2.2.2) hno, fun h => (ho 1).2 (Or.inr (hS.k3 (o 3 (by decide) h))), fun h => absurd ((hS.k6 (o 6 (by decide) h)).2.2.2) hno, fun h => (ho 6).2 (Or.inr (hS.k7 (o 7 (by decide) h)))⟩
      · have dn1 := ready_dep hi 1 (by kernel_rfl)
        have dn3 := ready_dep hi 3 (by kernel_rfl)
        have dn4 := ready_dep hi 4 (by kernel_rfl)
        have dn5 := ready_dep hi 5 (by kernel_rfl)
        have hS97 : P7 ≠ P8 := (hS.d5 dn5).2.2.2.2.2 dn4
        obtain ⟨rfl, _, _⟩ := hS.d1 dn1
        obtain ⟨rfl, ⟨x, y, z, hbx⟩, hP, hq1, hq3⟩ := hS.d4 dn4
        obtain ⟨c0, c1, c2, f0, f1, f2, _⟩ := id hbx
        refine wpOp_free (fun K hK => ?_)
        unfold wpOp
        go_simp
        refine Or.inl ?_
        refine hK _ _ ⟨_, _, _, _, _, _, P7, P8, g1, g2, rfl, ?_⟩
        exact ⟨(hS.ma).far3 (by omega) _ _ _, (hS.mb).far3 (by omega) _ _ _, set_three hS.bel (by omega) _ _ _, fun h => hS.d0 (o 0 (by decide) h), fun h => ⟨(hS.d1 (o 1 (by decide) h)).1, ((hS.d1 (o 1 (by decide) h)).2.1).far3 (hq1 dn1) _ _ _, (hS.d1 (o 1 (by decide) h)).2.2⟩, fun h => hS.d2 (o 2 (by decide) h), fun h => ⟨(hS.d3 (o 3 (by decide) h)).1, ((hS.d3 (o 3 (by decide) h)).2.1).far3 (hq3 dn3) _ _ _, (hS.d3 (o 3 (by decide) h)).2.2⟩, fun h => ⟨(hS.d4 (o 4 (by decide) h)).1, ⟨_, _, _, three_put hbx _ _ _⟩, (hS.d4 (o 4 (by decide) h)).2.2.1, fun h' => (hS.d4 (o 4 (by decide) h)).2.2.2.1 (o 1 (by decide) h'), fun h' => (hS.d4 (o 4 (by decide) h)).2.2.2.2 (o 3 (by decide) h')⟩, fun h => ⟨(hS.d5 (o 5 (by decide) h)).1, ((hS.d5 (o 5 (by decide) h)).2.1.elim fun x hx => hx.elim fun y hy => hy.elim fun z hz => ⟨x, y, z, (hz).far3 hS97 _ _ _⟩), (hS.d5 (o 5 (by decide) h)).2.2.1, fun h' => (hS.d5 (o 5 (by decide) h)).2.2.2.1 (o 1 (by decide) h'), fun h' => (hS.d5 (o 5 (by decide) h)).2.2.2.2.1 (o 3 (by decide) h'), fun h' => (hS.d5 (o 5 (by decide) h)).2.2.2.2.2 (o 4 (by decide) h')⟩, fun _ => three_put hbx _ _ _, fun h => absurd (hS.k7 (o 7 (by decide) h)) hno, fun h => (ho 1).2 (Or.inr (hS.k3 (o 3 (by decide) h))), fun _ => ⟨(ho 1).2 (Or.inr dn1), (ho 3).2 (Or.inr dn3), (ho 4).2 (Or.inr dn4), (ho 5).2 (Or.inr dn5)⟩, fun h => absurd (hS.k7 (o 7 (by decide) h)) hno⟩
      · have dn6 := ready_dep hi 6 (by kernel_rfl)
        obtain ⟨dn1, dn3, dn4, dn5⟩ := hS.k6 dn6
        have hS97 : P7 ≠ P8 := (hS.d5 dn5).2.2.2.2.2 dn4
        obtain ⟨rfl, _, _⟩ := hS.d3 dn3
        obtain ⟨rfl, ⟨x, y, z, hbx⟩, hP, hq1, hq3, hq4⟩ := hS.d5 dn5
        obtain ⟨c0, c1, c2, f0, f1, f2, _⟩ := id hbx
        refine wpOp_free (fun K hK => ?_)
        unfold wpOp
        go_simp
        refine Or.inl ?_
        refine hK _ _ ⟨_, _, _, _, _, _, P7, P8, g1, g2, rfl, ?_⟩
        exact ⟨(hS.ma).far3 (by omega) _ _ _, (hS.mb).far3 (by omega) _ _ _, set_three hS.bel (by omega) _ _ _, fun h => hS.d0 (o 0 (by decide) h), fun h => ⟨(hS.d1 (o 1 (by decide) h)).1, ((hS.d1 (o 1 (by decide) h)).2.1).far3 (hq1 dn1) _ _ _, (hS.d1 (o 1 (by decide) h)).2.2⟩, fun h => hS.d2 (o 2 (by decide) h), fun h => ⟨(hS.d3 (o 3 (by decide) h)).1, ((hS.d3 (o 3 (by decide) h)).2.1).far3 (hq3 dn3) _ _ _, (hS.d3 (o 3 (by decide) h)).2.2⟩, fun h => ⟨(hS.d4 (o 4 (by decide) h)).1, ((hS.d4 (o 4 (by decide) h)).2.1.elim fun x hx => hx.elim fun y hy => hy.elim fun z hz => ⟨x, y, z, (hz).far3 (fun e => hS97 e.symm) _ _ _⟩), (hS.d4 (o 4 (by decide) h)).2.2.1, fun h' => (hS.d4 (o 4 (by decide) h)).2.2.2.1 (o 1 (by decide) h'), fun h' => (hS.d4 (o 4 (by decide) h)).2.2.2.2 (o 3 (by decide) h')⟩, fun h => ⟨(hS.d5 (o 5 (by decide) h)).1, ⟨_, _, _, three_put hbx _ _ _⟩, (hS.d5 (o 5 (by decide) h)).2.2.1, fun h' => (hS.d5 (o 5 (by decide) h)).2.2.2.1 (o 1 (by decide) h'), fun h' => (hS.d5 (o 5 (by decide) h)).2.2.2.2.1 (o 3 (by decide) h'), fun h' => (hS.d5 (o 5 (by decide) h)).2.2.2.2.2 (o 4 (by decide) h')⟩, fun h => (hS.d6 (o 6 (by decide) h)).far3 (fun e => hS97 e.symm) _ _ _, fun _ => three_put hbx _ _ _, fun h => (ho 1).2 (Or.inr (hS.k3 (o 3 (by decide) h))), fun h => ⟨(ho 1).2 (Or.inr (hS.k6 (o 6 (by decide) h)).1), (ho 3).2 (Or.inr (hS.k6 (o 6 (by decide) h)).2.1), (ho 4).2 (Or.inr (hS.k6 (o 6 (by decide) h)).2.2.1), (ho 5).2 (Or.inr (hS.k6 (o 6 (by decide) h)).2.2.2)⟩, fun _ => (ho 6).2 (Or.inr dn6)⟩
    · rintro L a w' hL ⟨v9, v10, v19, v20, v21, v22, P7, P8, g1, g2, rfl, hS⟩ hnone
      have hd := all_done hL hnone (by kernel_rfl)
      have o := fun i (h : i < 8) => hd i h
      obtain ⟨e1, l1, _⟩ := hS.d1 (o 1 (by omega))
      obtain ⟨e3, l3, _⟩ := hS.d3 (o 3 (by omega))
      obtain ⟨e4, _⟩ := hS.d4 (o 4 (by omega))
      obtain ⟨e5, _⟩ := hS.d5 (o 5 (by omega))
      have e6 := hS.d6 (o 6 (by omega))
      have e7 := hS.d7 (o 7 (by omega))
      have hT : TellS w r c xs ao n cap r2 c2 ys bo m cap2 P7 P8 g1 g2 w'.heap.size w' := ⟨hS.ma, hS.mb, e6, e7, l1, l3, hS.bel, hS.mb.2.2.2.2.2.2, e6.2.2.2.2.2.2, e7.2.2.2.2.2.2, l1.lt, l3.lt⟩
      clear hd o hS hnone hL e1 e3 e6 e7 l1 l3
      go_wp2_with fail
      go_meet
      exact ⟨P7, P8, g1, g2, e4, e5, hT⟩
  case rest =>
    obtain ⟨P7, P8, g1, g2, rfl, rfl, TS⟩ := hcut
    have hM0 := Nat.le_refl wc.heap.size
    generalize hMM : wc.heap.size = MM at TS hM0
    have c1 := fun W => mmake_any rows cols W
    have c2a := fun W => rmake_any rows cols W
    have c3 := fun W => mident_any rows W
    have c4 := fun W => rident_any rows W
    have c5 := fun W h => mtrans_any r c xs (some ⟨g1, 0, none⟩) (n + 12) W h hF
    have c6 := fun W h => rtrans_any r c xs ao cap W h hF
    have c7 := fun W h1 h2 => msub_any r c xs r2 c2 ys (some ⟨g1, 0, none⟩) (some ⟨g2, 0, none⟩) (n + 12) (m + 12) W h1 h2 hF hG
    have c8 := fun W h1 h2 => rsub_any' r c xs r2 c2 ys ao bo cap cap2 W h1 h2 hF hG
    have c9 := fun W h => mnorm_any r c xs (some ⟨g1, 0, none⟩) (n + 12) W h hF (Or.inr ⟨g1, 0, rfl⟩) (by rw [hn.out]; omega) (by omega)
    have c10 := fun W h => rnormM_any r c xs ao cap W h hF
    have e1 := fun W => mright_any r c (some ⟨g1, 0, none⟩) n (n + 12) W
    have e2 := fun W => rright_any r c ao n cap W
    have e3 := fun W h1 h2 => msame_any r c xs r2 c2 ys (some ⟨g1, 0, none⟩) (some ⟨g2, 0, none⟩) (n + 12) (m + 12) W h1 h2 hF hG (by rw [hn.out]; omega) (by rw [hm.out]; omega)
    have e4 := fun W h1 h2 => rsameM_any r c xs r2 c2 ys ao bo cap cap2 W h1 h2 hF hG (by rw [hn.out]; omega)
    have e5 := fun W h => msym_any r c xs (some ⟨g1, 0, none⟩) (n + 12) W h hF (by rw [hn.out]; omega)
    have e6 := fun W h => rsym_any r c xs ao cap W h hF
    have e7 := fun W h => msym_any r2 c2 ys (some ⟨g2, 0, none⟩) (m + 12) W h hG (by rw [hm.out]; omega)
    have e8 := fun W h => rsym_any r2 c2 ys bo cap2 W h hG
    have km := fun W h1 h2 => keptM_any r c xs ao cap g1 W h1 hF h2 (by rw [hn.out]; omega)
    have kn := fun W h1 h2 => keptM_any r2 c2 ys bo cap2 g2 W h1 hG h2 (by rw [hm.out]; exact hym)
    have hnl := nmA_lt r c xs
    rw [hn.out] at c5 c6 c9 c10 e5 e6 km
    rw [hm.out] at e7 e8 kn
    rw [hn.out, hm.out] at c7 c8 e3 e4
    generalize rightM r c n = b1 at *
    generalize sameM r c xs r2 c2 ys = b2 at *
    generalize symM r c xs = b3 at *
    generalize symM r2 c2 ys = b4 at *
    generalize nmA r c xs = nm at *
    obtain ⟨nm1, nm2⟩ := nm
    have f1 : (b1 != b1) = false := by simp
    have f2 : (b2 != b2) = false := by simp
    have f3 : (b3 != b3) = false := by simp
    have f4 : (b4 != b4) = false := by simp
    have f5 : (nm2 == nm2) = true := by simp
    have cs := fun W => samef_any nm1 nm1 hnl hnl W
    rw [sameB_me] at cs
    have lbA : (mkA rows cols).os.length ≤ 2304 := mkA_len rows cols
    generalize mkA rows cols = A at *
    obtain ⟨A1, A2, A3, A4⟩ := A
    have lbI : (idA rows).os.length ≤ 2304 := idA_len rows
    generalize idA rows = I at *
    obtain ⟨I1, I2, I3, I4⟩ := I
    have lbR : (trA r c xs).os.length ≤ 2304 := trA_len r c xs
    generalize trA r c xs = R at *
    obtain ⟨R1, R2, R3, R4⟩ := R
    have lbS : (sbA r c xs r2 c2 ys).os.length ≤ 2304 := sbA_len r c xs r2 c2 ys
    generalize sbA r c xs r2 c2 ys = S at *
    obtain ⟨S1, S2, S3, S4⟩ := S
    go_upto_region 3 with (go_at_call 9; refine (c1 _).mono ?_; rintro e zma ⟨_, rfl, mao, mac, mal, rfl, hz⟩; have hv : GvL _ A3 mao mac mal zma := hz; clear hz)
    have hsz9 := hv.2.2.2.2.size
    have X1 := hv.2.2.2.2.alloc hv.2.2.2.2.size (.cells #[.int .i64 A1, .int .i64 A2, .slice mao mal.length mac] 24)
    have BM := B3.new zma (.int .i64 A1) (.int .i64 A2) (.slice mao mal.length mac) 24
    have gM := hv.2.1.below (below_one zma (.cells #[.int .i64 A1, .int .i64 A2, .slice mao mal.length mac] 24))
    replace TS := TS.below X1
    have hw9 := X1.size
    have hKM : MM ≤ zma.heap.size := (by omega)
    have hLM : zma.heap.size < (zma.alloc (.cells #[.int .i64 A1, .int .i64 A2, .slice mao mal.length mac] 24)).heap.size := (by simp)
    have hW9 : MM ≤ (zma.alloc (.cells #[.int .i64 A1, .int .i64 A2, .slice mao mal.length mac] 24)).heap.size := (by omega)
    replace hM0 := hW9
    have nM := hv.1
    clear hv X1 hsz9 hw9 hW9
    generalize zma.alloc (.cells #[.int .i64 A1, .int .i64 A2, .slice mao mal.length mac] 24) = Wma at *
    generalize zma.heap.size = KM at *
    go_upto_region 4 with (go_at_call 22; refine (c2a _).mono ?_; rintro e zna ⟨_, rfl, nao, nac, nal, rfl, hz⟩; have hv : GvL _ A3 nao nac nal zna := hz; clear hz)
    have hsz9 := hv.2.2.2.2.size
    have X1 := hv.2.2.2.2.alloc hv.2.2.2.2.size (.cells #[.int .i64 A1, .int .i64 A2, .slice nao nal.length nac] 24)
    have BN := B3.new zna (.int .i64 A1) (.int .i64 A2) (.slice nao nal.length nac) 24
    have gN := hv.2.1.below (below_one zna (.cells #[.int .i64 A1, .int .i64 A2, .slice nao nal.length nac] 24))
    replace TS := TS.below X1
    have hw9 := X1.size
    replace BM := BM.below X1
    replace gM := gM.below X1
    have hMN : KM < zna.heap.size := (by omega)
    replace hLM : KM < (zna.alloc (.cells #[.int .i64 A1, .int .i64 A2, .slice nao nal.length nac] 24)).heap.size := (by omega)
    have hKN : MM ≤ zna.heap.size := (by omega)
    have hLN : zna.heap.size < (zna.alloc (.cells #[.int .i64 A1, .int .i64 A2, .slice nao nal.length nac] 24)).heap.size := (by simp)
    have hW9 : MM ≤ (zna.alloc (.cells #[.int .i64 A1, .int .i64 A2, .slice nao nal.length nac] 24)).heap.size := (by omega)
    replace hM0 := hW9
    have nN := hv.1
    clear hv X1 hsz9 hw9 hW9
    generalize zna.alloc (.cells #[.int .i64 A1, .int .i64 A2, .slice nao nal.length nac] 24) = Wna at *
    generalize zna.heap.size = KN at *
    obtain ⟨x0, x1, x2, _⟩ := id BM
    obtain ⟨y0, y1, y2, _⟩ := id BN
    go_upto_region 6 with (go_at_call 11; refine (lis_LN A1 A2 A4 nM nN _ _ _ _ _ gM gN lbA).mono ?_; rintro e wI ⟨rfl, bz⟩; replace TS := TS.below bz; replace BM := BM.below bz; replace BN := BN.below bz; have hs9 := bz.size; replace hLM := Nat.lt_of_lt_of_le hLM hs9; replace hLN := Nat.lt_of_lt_of_le hLN hs9; replace hM0 := Nat.le_trans hM0 hs9)
    clear x0 x1 x2 y0 y1 y2 bz hs9 nM nN gM gN
    generalize wI = WI at *
    go_upto_region 7 with (go_at_call 10; refine (c3 _).mono ?_; rintro e zmi ⟨_, rfl, mio, mic, mil, rfl, hz⟩; have hv : GvL _ I3 mio mic mil zmi := hz; clear hz; have BX := BM.below hv.2.2.2.2; obtain ⟨c0, c1x, c2x, f0, f1x, f2x, _⟩ := id BX)
    have hsz9 := hv.2.2.2.2.size
    replace TS := (TS.below hv.2.2.2.2).put hKM (.int .i64 I1) (.int .i64 I2) (.slice mio mil.length mic)
    replace BM := three_put BX (.int .i64 I1) (.int .i64 I2) (.slice mio mil.length mic)
    replace BN := (BN.below hv.2.2.2.2).far3 (c := KM) (by omega) (.int .i64 I1) (.int .i64 I2) (.slice mio mil.length mic)
    have fM : ∃ q, Frs q mio ∧ KN < q := ⟨_, hv.2.2.2.1, hLN⟩
    have gM := hv.2.1.boxed hv.2.2.2.1 hLM (.int .i64 I1) (.int .i64 I2) (.slice mio mil.length mic)
    have hw9 : (((zmi.setCell ⟨KM, 0, none⟩ (.int .i64 I1)).setCell ⟨KM, 1, none⟩ (.int .i64 I2)).setCell ⟨KM, 2, none⟩ (.slice mio mil.length mic)).heap.size = zmi.heap.size := (by simp [World.setCell])
    replace hLM : KM < (((zmi.setCell ⟨KM, 0, none⟩ (.int .i64 I1)).setCell ⟨KM, 1, none⟩ (.int .i64 I2)).setCell ⟨KM, 2, none⟩ (.slice mio mil.length mic)).heap.size := (by omega)
    replace hLN : KN < (((zmi.setCell ⟨KM, 0, none⟩ (.int .i64 I1)).setCell ⟨KM, 1, none⟩ (.int .i64 I2)).setCell ⟨KM, 2, none⟩ (.slice mio mil.length mic)).heap.size := (by omega)
    replace hM0 : MM ≤ (((zmi.setCell ⟨KM, 0, none⟩ (.int .i64 I1)).setCell ⟨KM, 1, none⟩ (.int .i64 I2)).setCell ⟨KM, 2, none⟩ (.slice mio mil.length mic)).heap.size := (by omega)
    have nM := hv.1
    clear hv BX c0 c1x c2x f0 f1x f2x hsz9 hw9
    generalize (((zmi.setCell ⟨KM, 0, none⟩ (.int .i64 I1)).setCell ⟨KM, 1, none⟩ (.int .i64 I2)).setCell ⟨KM, 2, none⟩ (.slice mio mil.length mic)) = Wmi at *
    go_upto_region 8 with (go_at_call 23; refine (c4 _).mono ?_; rintro e znj ⟨_, rfl, njo, njc, njl, rfl, hz⟩; have hv : GvL _ I3 njo njc njl znj := hz; clear hz; have BX := BN.below hv.2.2.2.2; obtain ⟨c0, c1x, c2x, f0, f1x, f2x, _⟩ := id BX)
    have hsz9 := hv.2.2.2.2.size
    replace TS := (TS.below hv.2.2.2.2).put hKN (.int .i64 I1) (.int .i64 I2) (.slice njo njl.length njc)
    replace BN := three_put BX (.int .i64 I1) (.int .i64 I2) (.slice njo njl.length njc)
    replace BM := (BM.below hv.2.2.2.2).far3 (c := KN) (by omega) (.int .i64 I1) (.int .i64 I2) (.slice njo njl.length njc)
    have gN := hv.2.1.boxed hv.2.2.2.1 hLN (.int .i64 I1) (.int .i64 I2) (.slice njo njl.length njc)
    obtain ⟨q9, fq9, hq9⟩ := fM
    replace gM := (gM.below hv.2.2.2.2).boxed fq9 hq9 (.int .i64 I1) (.int .i64 I2) (.slice njo njl.length njc)
    have hw9 : (((znj.setCell ⟨KN, 0, none⟩ (.int .i64 I1)).setCell ⟨KN, 1, none⟩ (.int .i64 I2)).setCell ⟨KN, 2, none⟩ (.slice njo njl.length njc)).heap.size = znj.heap.size := (by simp [World.setCell])
    replace hLM : KM < (((znj.setCell ⟨KN, 0, none⟩ (.int .i64 I1)).setCell ⟨KN, 1, none⟩ (.int .i64 I2)).setCell ⟨KN, 2, none⟩ (.slice njo njl.length njc)).heap.size := (by omega)
    replace hLN : KN < (((znj.setCell ⟨KN, 0, none⟩ (.int .i64 I1)).setCell ⟨KN, 1, none⟩ (.int .i64 I2)).setCell ⟨KN, 2, none⟩ (.slice njo njl.length njc)).heap.size := (by omega)
    replace hM0 : MM ≤ (((znj.setCell ⟨KN, 0, none⟩ (.int .i64 I1)).setCell ⟨KN, 1, none⟩ (.int .i64 I2)).setCell ⟨KN, 2, none⟩ (.slice njo njl.length njc)).heap.size := (by omega)
    have nN := hv.1
    clear hv BX c0 c1x c2x f0 f1x f2x hsz9 hw9
    generalize (((znj.setCell ⟨KN, 0, none⟩ (.int .i64 I1)).setCell ⟨KN, 1, none⟩ (.int .i64 I2)).setCell ⟨KN, 2, none⟩ (.slice njo njl.length njc)) = Wnj at *
    have hne : Nonempty (LOf Wnj) := LOf.any _
    have k00 : ∀ u : LOf Wnj, u.val.cell? ⟨KM, 0, none⟩ = some (.int .i64 I1) := fun u => u.cell BM.1
    have k01 : ∀ u : LOf Wnj, u.val.cell? ⟨KM, 1, none⟩ = some (.int .i64 I2) := fun u => u.cell BM.2.1
    have k02 : ∀ u : LOf Wnj, u.val.cell? ⟨KM, 2, none⟩ = some (.slice mio mil.length mic) := fun u => u.cell BM.2.2.1
    have k10 : ∀ u : LOf Wnj, u.val.cell? ⟨KN, 0, none⟩ = some (.int .i64 I1) := fun u => u.cell BN.1
    have k11 : ∀ u : LOf Wnj, u.val.cell? ⟨KN, 1, none⟩ = some (.int .i64 I2) := fun u => u.cell BN.2.1
    have k12 : ∀ u : LOf Wnj, u.val.cell? ⟨KN, 2, none⟩ = some (.slice njo njl.length njc) := fun u => u.cell BN.2.2.1
    have k20 : ∀ u : LOf Wnj, u.val.cell? ⟨P7, 0, none⟩ = some (.int .i64 r) := fun u => u.cell TS.px.1
    have k21 : ∀ u : LOf Wnj, u.val.cell? ⟨P7, 1, none⟩ = some (.int .i64 c) := fun u => u.cell TS.px.2.1
    have k22 : ∀ u : LOf Wnj, u.val.cell? ⟨P7, 2, none⟩ = some (.slice (some ⟨g1, 0, none⟩) n (n + 12)) := fun u => u.cell TS.px.2.2.1
    have k30 : ∀ u : LOf Wnj, u.val.cell? ⟨P8, 0, none⟩ = some (.int .i64 r2) := fun u => u.cell TS.py.1
    have k31 : ∀ u : LOf Wnj, u.val.cell? ⟨P8, 1, none⟩ = some (.int .i64 c2) := fun u => u.cell TS.py.2.1
    have k32 : ∀ u : LOf Wnj, u.val.cell? ⟨P8, 2, none⟩ = some (.slice (some ⟨g2, 0, none⟩) m (m + 12)) := fun u => u.cell TS.py.2.2.1
    have k40 : ∀ u : LOf Wnj, u.val.cell? ⟨w.heap.size, 0, none⟩ = some (.int .i64 r) := fun u => u.cell TS.ma.1
    have k41 : ∀ u : LOf Wnj, u.val.cell? ⟨w.heap.size, 1, none⟩ = some (.int .i64 c) := fun u => u.cell TS.ma.2.1
    have k42 : ∀ u : LOf Wnj, u.val.cell? ⟨w.heap.size, 2, none⟩ = some (.slice ao n cap) := fun u => u.cell TS.ma.2.2.1
    have k50 : ∀ u : LOf Wnj, u.val.cell? ⟨(w.heap.size + 1), 0, none⟩ = some (.int .i64 r2) := fun u => u.cell TS.mb.1
    have k51 : ∀ u : LOf Wnj, u.val.cell? ⟨(w.heap.size + 1), 1, none⟩ = some (.int .i64 c2) := fun u => u.cell TS.mb.2.1
    have k52 : ∀ u : LOf Wnj, u.val.cell? ⟨(w.heap.size + 1), 2, none⟩ = some (.slice bo m cap2) := fun u => u.cell TS.mb.2.2.1
    have jM : ∀ u : LOf Wnj, GRow u.val mio mil := fun u => u.row gM
    have jN : ∀ u : LOf Wnj, GRow u.val njo njl := fun u => u.row gN
    have jx : ∀ u : LOf Wnj, GRow u.val (some ⟨g1, 0, none⟩) xs := fun u => u.row TS.lx.row
    have jy : ∀ u : LOf Wnj, GRow u.val (some ⟨g2, 0, none⟩) ys := fun u => u.row TS.ly.row
    have ja : ∀ u : LOf Wnj, GRow u.val ao xs := fun u => u.row (hr.below TS.bel)
    have jb : ∀ u : LOf Wnj, GRow u.val bo ys := fun u => u.row (hs.below TS.bel)
    refine region_later (by kernel_rfl) (by kernel_rfl) ?_
    repeat (quiet_step (first
      | (go_at_call 11; exact later_of (lis_LN I1 I2 I4 nM nN _ _ _ _ _ (jM _) (jN _) lbI))
      | (go_at_call 19; exact later_of (e1 _))
      | (go_at_call 24; exact later_of (e2 _))
      | (go_at_call 25; exact later_of (e3 _ (jx _) (jy _)))
      | (go_at_call 26; exact later_of (e4 _ (ja _) (jb _)))
      | (go_at_call 18; first | with_reducible exact later_of (e5 _ (jx _)) | with_reducible exact later_of (e7 _ (jy _)))
      | (go_at_call 27; first | with_reducible exact later_of (e6 _ (ja _)) | with_reducible exact later_of (e8 _ (jb _)))))
    refine wpQuiet_nil ?_
    intro w8 hw8
    obtain ⟨u8, rfl⟩ := hw8
    have bz := u8.below
    replace TS := TS.below bz
    replace BM := BM.below bz
    replace BN := BN.below bz
    have hs9 := bz.size
    replace hLM := Nat.lt_of_lt_of_le hLM hs9
    replace hLN := Nat.lt_of_lt_of_le hLN hs9
    replace hM0 := Nat.le_trans hM0 hs9
    clear bz hs9 k00 k01 k02 k10 k11 k12 k20 k21 k22 k30 k31 k32 k40 k41 k42 k50 k51 k52 jM jN jx jy ja jb hne nM nN gM gN e1 e2 e3 e4 e5 e6 e7 e8
    generalize u8.val = W8 at *
    clear u8
    obtain ⟨u00, u01, u02, _⟩ := id TS.px
    go_upto_region 11 with (go_at_call 28; refine (c5 _ TS.lx.row).mono ?_; rintro e zmt ⟨_, rfl, mto, mtc, mtl, rfl, hz⟩; have hv : GvL _ R3 mto mtc mtl zmt := hz; clear hz; have BX := BM.below hv.2.2.2.2; obtain ⟨c0, c1x, c2x, f0, f1x, f2x, _⟩ := id BX)
    have hsz9 := hv.2.2.2.2.size
    clear u00 u01 u02
    replace TS := (TS.below hv.2.2.2.2).put hKM (.int .i64 R1) (.int .i64 R2) (.slice mto mtl.length mtc)
    replace BM := three_put BX (.int .i64 R1) (.int .i64 R2) (.slice mto mtl.length mtc)
    replace BN := (BN.below hv.2.2.2.2).far3 (c := KM) (by omega) (.int .i64 R1) (.int .i64 R2) (.slice mto mtl.length mtc)
    have fM : ∃ q, Frs q mto ∧ KN < q := ⟨_, hv.2.2.2.1, hLN⟩
    have gM := hv.2.1.boxed hv.2.2.2.1 hLM (.int .i64 R1) (.int .i64 R2) (.slice mto mtl.length mtc)
    have hw9 : (((zmt.setCell ⟨KM, 0, none⟩ (.int .i64 R1)).setCell ⟨KM, 1, none⟩ (.int .i64 R2)).setCell ⟨KM, 2, none⟩ (.slice mto mtl.length mtc)).heap.size = zmt.heap.size := (by simp [World.setCell])
    replace hLM : KM < (((zmt.setCell ⟨KM, 0, none⟩ (.int .i64 R1)).setCell ⟨KM, 1, none⟩ (.int .i64 R2)).setCell ⟨KM, 2, none⟩ (.slice mto mtl.length mtc)).heap.size := (by omega)
    replace hLN : KN < (((zmt.setCell ⟨KM, 0, none⟩ (.int .i64 R1)).setCell ⟨KM, 1, none⟩ (.int .i64 R2)).setCell ⟨KM, 2, none⟩ (.slice mto mtl.length mtc)).heap.size := (by omega)
    replace hM0 : MM ≤ (((zmt.setCell ⟨KM, 0, none⟩ (.int .i64 R1)).setCell ⟨KM, 1, none⟩ (.int .i64 R2)).setCell ⟨KM, 2, none⟩ (.slice mto mtl.length mtc)).heap.size := (by omega)
    have nM := hv.1
    clear hv BX c0 c1x c2x f0 f1x f2x hsz9 hw9
    generalize (((zmt.setCell ⟨KM, 0, none⟩ (.int .i64 R1)).setCell ⟨KM, 1, none⟩ (.int .i64 R2)).setCell ⟨KM, 2, none⟩ (.slice mto mtl.length mtc)) = Wmt at *
    obtain ⟨u00, u01, u02, _⟩ := id TS.ma
    go_upto_region 12 with (go_at_call 29; refine (c6 _ (hr.below TS.bel)).mono ?_; rintro e znt ⟨_, rfl, nto, ntc, ntl, rfl, hz⟩; have hv : GvL _ R3 nto ntc ntl znt := hz; clear hz; have BX := BN.below hv.2.2.2.2; obtain ⟨c0, c1x, c2x, f0, f1x, f2x, _⟩ := id BX)
    have hsz9 := hv.2.2.2.2.size
    clear u00 u01 u02
    replace TS := (TS.below hv.2.2.2.2).put hKN (.int .i64 R1) (.int .i64 R2) (.slice nto ntl.length ntc)
    replace BN := three_put BX (.int .i64 R1) (.int .i64 R2) (.slice nto ntl.length ntc)
    replace BM := (BM.below hv.2.2.2.2).far3 (c := KN) (by omega) (.int .i64 R1) (.int .i64 R2) (.slice nto ntl.length ntc)
    have gN := hv.2.1.boxed hv.2.2.2.1 hLN (.int .i64 R1) (.int .i64 R2) (.slice nto ntl.length ntc)
    obtain ⟨q9, fq9, hq9⟩ := fM
    replace gM := (gM.below hv.2.2.2.2).boxed fq9 hq9 (.int .i64 R1) (.int .i64 R2) (.slice nto ntl.length ntc)
    have hw9 : (((znt.setCell ⟨KN, 0, none⟩ (.int .i64 R1)).setCell ⟨KN, 1, none⟩ (.int .i64 R2)).setCell ⟨KN, 2, none⟩ (.slice nto ntl.length ntc)).heap.size = znt.heap.size := (by simp [World.setCell])
    replace hLM : KM < (((znt.setCell ⟨KN, 0, none⟩ (.int .i64 R1)).setCell ⟨KN, 1, none⟩ (.int .i64 R2)).setCell ⟨KN, 2, none⟩ (.slice nto ntl.length ntc)).heap.size := (by omega)
    replace hLN : KN < (((znt.setCell ⟨KN, 0, none⟩ (.int .i64 R1)).setCell ⟨KN, 1, none⟩ (.int .i64 R2)).setCell ⟨KN, 2, none⟩ (.slice nto ntl.length ntc)).heap.size := (by omega)
    replace hM0 : MM ≤ (((znt.setCell ⟨KN, 0, none⟩ (.int .i64 R1)).setCell ⟨KN, 1, none⟩ (.int .i64 R2)).setCell ⟨KN, 2, none⟩ (.slice nto ntl.length ntc)).heap.size := (by omega)
    have nN := hv.1
    clear hv BX c0 c1x c2x f0 f1x f2x hsz9 hw9
    generalize (((znt.setCell ⟨KN, 0, none⟩ (.int .i64 R1)).setCell ⟨KN, 1, none⟩ (.int .i64 R2)).setCell ⟨KN, 2, none⟩ (.slice nto ntl.length ntc)) = Wnt at *
    obtain ⟨x0, x1, x2, _⟩ := id BM
    obtain ⟨y0, y1, y2, _⟩ := id BN
    go_upto_region 14 with (go_at_call 11; refine (lis_LN R1 R2 R4 nM nN _ _ _ _ _ gM gN lbR).mono ?_; rintro e wI ⟨rfl, bz⟩; replace TS := TS.below bz; replace BM := BM.below bz; replace BN := BN.below bz; have hs9 := bz.size; replace hLM := Nat.lt_of_lt_of_le hLM hs9; replace hLN := Nat.lt_of_lt_of_le hLN hs9; replace hM0 := Nat.le_trans hM0 hs9)
    clear x0 x1 x2 y0 y1 y2 bz hs9 nM nN gM gN
    generalize wI = WI at *
    obtain ⟨u00, u01, u02, _⟩ := id TS.px
    obtain ⟨u10, u11, u12, _⟩ := id TS.py
    go_upto_region 15 with (go_at_call 30; refine (c7 _ TS.lx.row TS.ly.row).mono ?_; rintro e zms ⟨_, rfl, mso, msc, msl, rfl, hz⟩; have hv : GvL _ S3 mso msc msl zms := hz; clear hz; have BX := BM.below hv.2.2.2.2; obtain ⟨c0, c1x, c2x, f0, f1x, f2x, _⟩ := id BX)
    have hsz9 := hv.2.2.2.2.size
    clear u00 u01 u02 u10 u11 u12
    replace TS := (TS.below hv.2.2.2.2).put hKM (.int .i64 S1) (.int .i64 S2) (.slice mso msl.length msc)
    replace BM := three_put BX (.int .i64 S1) (.int .i64 S2) (.slice mso msl.length msc)
    replace BN := (BN.below hv.2.2.2.2).far3 (c := KM) (by omega) (.int .i64 S1) (.int .i64 S2) (.slice mso msl.length msc)
    have fM : ∃ q, Frs q mso ∧ KN < q := ⟨_, hv.2.2.2.1, hLN⟩
    have gM := hv.2.1.boxed hv.2.2.2.1 hLM (.int .i64 S1) (.int .i64 S2) (.slice mso msl.length msc)
    have hw9 : (((zms.setCell ⟨KM, 0, none⟩ (.int .i64 S1)).setCell ⟨KM, 1, none⟩ (.int .i64 S2)).setCell ⟨KM, 2, none⟩ (.slice mso msl.length msc)).heap.size = zms.heap.size := (by simp [World.setCell])
    replace hLM : KM < (((zms.setCell ⟨KM, 0, none⟩ (.int .i64 S1)).setCell ⟨KM, 1, none⟩ (.int .i64 S2)).setCell ⟨KM, 2, none⟩ (.slice mso msl.length msc)).heap.size := (by omega)
    replace hLN : KN < (((zms.setCell ⟨KM, 0, none⟩ (.int .i64 S1)).setCell ⟨KM, 1, none⟩ (.int .i64 S2)).setCell ⟨KM, 2, none⟩ (.slice mso msl.length msc)).heap.size := (by omega)
    replace hM0 : MM ≤ (((zms.setCell ⟨KM, 0, none⟩ (.int .i64 S1)).setCell ⟨KM, 1, none⟩ (.int .i64 S2)).setCell ⟨KM, 2, none⟩ (.slice mso msl.length msc)).heap.size := (by omega)
    have nM := hv.1
    clear hv BX c0 c1x c2x f0 f1x f2x hsz9 hw9
    generalize (((zms.setCell ⟨KM, 0, none⟩ (.int .i64 S1)).setCell ⟨KM, 1, none⟩ (.int .i64 S2)).setCell ⟨KM, 2, none⟩ (.slice mso msl.length msc)) = Wms at *
    obtain ⟨u00, u01, u02, _⟩ := id TS.ma
    obtain ⟨u10, u11, u12, _⟩ := id TS.mb
    go_upto_region 16 with (go_at_call 31; refine (c8 _ (hr.below TS.bel) (hs.below TS.bel)).mono ?_; rintro e zns ⟨_, rfl, nso, nsc, nsl, rfl, hz⟩; have hv : GvL _ S3 nso nsc nsl zns := hz; clear hz; have BX := BN.below hv.2.2.2.2; obtain ⟨c0, c1x, c2x, f0, f1x, f2x, _⟩ := id BX)
    have hsz9 := hv.2.2.2.2.size
    clear u00 u01 u02 u10 u11 u12
    replace TS := (TS.below hv.2.2.2.2).put hKN (.int .i64 S1) (.int .i64 S2) (.slice nso nsl.length nsc)
    replace BN := three_put BX (.int .i64 S1) (.int .i64 S2) (.slice nso nsl.length nsc)
    replace BM := (BM.below hv.2.2.2.2).far3 (c := KN) (by omega) (.int .i64 S1) (.int .i64 S2) (.slice nso nsl.length nsc)
    have gN := hv.2.1.boxed hv.2.2.2.1 hLN (.int .i64 S1) (.int .i64 S2) (.slice nso nsl.length nsc)
    obtain ⟨q9, fq9, hq9⟩ := fM
    replace gM := (gM.below hv.2.2.2.2).boxed fq9 hq9 (.int .i64 S1) (.int .i64 S2) (.slice nso nsl.length nsc)
    have hw9 : (((zns.setCell ⟨KN, 0, none⟩ (.int .i64 S1)).setCell ⟨KN, 1, none⟩ (.int .i64 S2)).setCell ⟨KN, 2, none⟩ (.slice nso nsl.length nsc)).heap.size = zns.heap.size := (by simp [World.setCell])
    replace hLM : KM < (((zns.setCell ⟨KN, 0, none⟩ (.int .i64 S1)).setCell ⟨KN, 1, none⟩ (.int .i64 S2)).setCell ⟨KN, 2, none⟩ (.slice nso nsl.length nsc)).heap.size := (by omega)
    replace hLN : KN < (((zns.setCell ⟨KN, 0, none⟩ (.int .i64 S1)).setCell ⟨KN, 1, none⟩ (.int .i64 S2)).setCell ⟨KN, 2, none⟩ (.slice nso nsl.length nsc)).heap.size := (by omega)
    replace hM0 : MM ≤ (((zns.setCell ⟨KN, 0, none⟩ (.int .i64 S1)).setCell ⟨KN, 1, none⟩ (.int .i64 S2)).setCell ⟨KN, 2, none⟩ (.slice nso nsl.length nsc)).heap.size := (by omega)
    have nN := hv.1
    clear hv BX c0 c1x c2x f0 f1x f2x hsz9 hw9
    generalize (((zns.setCell ⟨KN, 0, none⟩ (.int .i64 S1)).setCell ⟨KN, 1, none⟩ (.int .i64 S2)).setCell ⟨KN, 2, none⟩ (.slice nso nsl.length nsc)) = Wns at *
    clear hLM hLN hM0 hMM fq9 hq9
    obtain ⟨u00, u01, u02, _⟩ := id TS.px
    go_upto_region 17 with (go_at_call 16; refine (c9 _ TS.lx.row).mono ?_; rintro e wn1 ⟨rfl, bz⟩; replace TS := TS.below bz; replace BM := BM.below bz; replace BN := BN.below bz; replace gM := gM.below bz; replace gN := gN.below bz)
    clear u00 u01 u02 bz
    obtain ⟨u00, u01, u02, _⟩ := id TS.ma
    go_upto_region 18 with (go_at_call 32; refine (c10 _ (hr.below TS.bel)).mono ?_; rintro e wn2 ⟨rfl, bz⟩; replace TS := TS.below bz; replace BM := BM.below bz; replace BN := BN.below bz; replace gM := gM.below bz; replace gN := gN.below bz)
    clear u00 u01 u02 bz
    obtain ⟨x0, x1, x2, _⟩ := id BM
    obtain ⟨y0, y1, y2, _⟩ := id BN
    clear BM BN
    go_wp2_with (first
      | (go_at_call 11; refine (lis_LN S1 S2 S4 nM nN _ _ _ _ _ gM gN lbS).mono ?_; rintro e w5 ⟨rfl, bz⟩; replace TS := TS.below bz; obtain ⟨p0, p1, p2, _⟩ := id TS.ma; obtain ⟨q0, q1, q2, _⟩ := id TS.mb; obtain ⟨s0, s1, s2, _⟩ := id TS.px; obtain ⟨t0, t1, t2, _⟩ := id TS.py)
      | (go_at_call 33; refine (cs _).mono ?_; rintro e w6 ⟨rfl, rfl⟩)
      | (go_at_call_of 34 (Value.agg #[Value.int IntKind.i64 r, Value.int IntKind.i64 c, Value.slice ao n cap]); refine (km _ (hr.below TS.bel) TS.lx).mono ?_; rintro e w7 ⟨rfl, bz⟩; replace TS := TS.below bz; obtain ⟨p0, p1, p2, _⟩ := id TS.ma; obtain ⟨q0, q1, q2, _⟩ := id TS.mb; obtain ⟨s0, s1, s2, _⟩ := id TS.px; obtain ⟨t0, t1, t2, _⟩ := id TS.py)
      | (go_at_call_of 34 (Value.agg #[Value.int IntKind.i64 r2, Value.int IntKind.i64 c2, Value.slice bo m cap2]); refine (kn _ (hs.below TS.bel) TS.ly).mono ?_; rintro e w8 ⟨rfl, bz⟩; replace TS := TS.below bz; obtain ⟨p0, p1, p2, _⟩ := id TS.ma; obtain ⟨q0, q1, q2, _⟩ := id TS.mb; obtain ⟨s0, s1, s2, _⟩ := id TS.px; obtain ⟨t0, t1, t2, _⟩ := id TS.py)
      | (go_at_call 20; refine (mawake _).mono ?_; rintro e w10 ⟨rfl, bz⟩; replace TS := TS.below bz))
    go_ret
    exact ⟨rfl, TS.bel⟩
theorem tells_row (r c : Int) (xs : List Nat) (ao : Option Addr) (cap : Nat) (r2 c2 : Int) (ys : List Nat) (bo : Option Addr) (cap2 : Nat) (rows cols : Int) (w : World) (hr : GRow w ao xs) (hF : FW xs) (za : ao = none → cap = 0 ∧ xs.length = 0) (h1 : xs.length ≤ cap) (h2 : cap ≤ 17592186044416) (hs : GRow w bo ys) (hG : FW ys) (zb : bo = none → cap2 = 0 ∧ ys.length = 0) (h3 : ys.length ≤ cap2) (h4 : cap2 ≤ 17592186044416) :
    Calls Try.prog 4 #[mxV r c ao xs.length cap, mxV r2 c2 bo ys.length cap2, .int .i64 rows, .int .i64 cols] w fun e w' => e = .returned (.bool true) ∧ Below w.heap.size w w' :=
  tells_law r c xs ao xs.length cap r2 c2 ys bo ys.length cap2 rows cols w rfl rfl hr hs hF hG za zb (by omega) (by omega)
end Go.Proofs.Ytnbdhbmiiplmbaa
