/- What Norm of the program answers. -/
import Derived.Test.YthbnffnoldmcnaaMx6
import Derived.Test.YthbnffnoldmcnaaGa
namespace Go.Proofs.Ythbnffnoldmcnaa
open Go.RowKit

/-- A sum of two finite floats not below 0 is not below 0. -/
theorem sumN_pos {a b : Nat} (ha : a < 9218868437227405312) (hb : b < 9218868437227405312) : sumN a b ≤ 9218868437227405312 := by
  have fa : finB a = true := by unfold finB; rw [rung_small (by omega)]; simpa using ha
  have fb : finB b = true := by unfold finB; rw [rung_small (by omega)]; simpa using hb
  have sa := sgn_small (show a < 9223372036854775808 by omega)
  have sb := sgn_small (show b < 9223372036854775808 by omega)
  have h : floatBits .add .f64 a b = ((Ieee.double.read a).sum (Ieee.double.read b)).map Ieee.double.write := (fbits_map a b).1
  rw [read_fin (by omega) fa, read_fin (by omega) fb, sa, sb, sum_val] at h
  have hn : ∀ m k : Nat, 0 ≤ Ieee.signed false m k := fun m k => by unfold Ieee.signed; simp; exact_mod_cast Nat.zero_le _
  generalize hT : Ieee.signed false (mg (rung a)) (up (rung a) - min (up (rung a)) (up (rung b))) + Ieee.signed false (mg (rung b)) (up (rung b) - min (up (rung a)) (up (rung b))) = T at h
  have hT0 : 0 ≤ T := by rw [← hT]; exact Int.add_nonneg (hn _ _) (hn _ _)
  have hS : (if T = 0 then false && false else decide (T < 0)) = false := by
    split
    · rfl
    · exact decide_eq_false (by omega)
  rw [hS] at h
  simp only [Option.map_some, Ieee.Format.write] at h
  obtain ⟨q, hq, e⟩ := nearest_word false T.natAbs (-1074 + (min (up (rung a)) (up (rung b)) : Nat))
  rw [e] at h
  unfold sumN
  rw [h]
  show Ieee.double.word false q ≤ _
  rw [word_pos]
  exact hq
theorem addV_pos {a b : Nat} (ha : a < 9218868437227405312) (hb : b < 9218868437227405312) : addV a b 2 ≤ 9218868437227405312 := by
  have hn := sumN_pos ha hb
  unfold addV addM
  split
  · unfold noughtF
    split
    · omega
    · split
      · rename_i h; exact absurd h (by decide)
      · omega
  · unfold stepF
    split
    · have hx := nan_small hn
      unfold cpy
      rw [sgn_small (by omega)]
      have k : ∀ u, rung (nextF (sumN a b) u) ≤ 9218868437227405312 := fun u => by
        cases u
        · have := (next_dn hx).2.1; unfold nanB at this; simpa using this
        · have := (next_up hx).2.1; unfold nanB at this; simpa using this
      simpa using k _
    · exact hn
theorem adU_pos {s x : Nat} (hs : s ≤ 9218868437227405312) (hx : x < 9218868437227405312) : ∃ v, adU s x = some v ∧ v ≤ 9218868437227405312 := by
  have fx : finB x = true := by unfold finB; rw [rung_small (by omega)]; simpa using hx
  rcases Nat.lt_or_ge s 9218868437227405312 with h | h
  · have fs : finB s = true := by unfold finB; rw [rung_small (by omega)]; simpa using h
    refine ⟨addV s x 2, ?_, addV_pos h hx⟩
    unfold adU
    rw [fs, fx]
    rfl
  · have e : s = 9218868437227405312 := by omega
    have fs : finB s = false := by unfold finB; rw [rung_small (by omega)]; simp; omega
    refine ⟨s, ?_, hs⟩
    unfold adU
    rw [fs]
    exact add_inf_l (by omega) (by rw [rung_small (by omega)]; exact e) (by omega) fx
theorem mfin_rung {x : Nat} (h : finB x = true) : rung x < 9218868437227405312 := by unfold finB at h; simpa using h
theorem nrO_fin (xs : List Nat) (k : Nat) (h : ∀ j, j < k → finB (xs.getD j 0) = true) : ∃ v, nrO xs k = some v ∧ v ≤ 9218868437227405312 := by
  induction k with
  | zero => exact ⟨0, rfl, by omega⟩
  | succ k ih =>
    obtain ⟨v, h1, h2⟩ := ih (fun j hj => h j (by omega))
    obtain ⟨u, h3, h4⟩ := adU_pos h2 (mfin_rung (h k (by omega)))
    exact ⟨u, by show (nrO xs k).bind _ = _; rw [h1]; exact h3, h4⟩
/-- Row i of a matrix. -/
def rowL (C : Nat) (xs : List Nat) (i : Nat) : List Nat := (List.range C).map fun j => xs.getD (i * C + j) 0
theorem rowL_len (C : Nat) (xs : List Nat) (i : Nat) : (rowL C xs i).length = C := by simp [rowL]
theorem rowL_at {C : Nat} {xs : List Nat} {i j : Nat} (h : j < C) : (rowL C xs i).getD j 0 = xs.getD (i * C + j) 0 := by simp [rowL, List.getD_eq_getElem?_getD, h]
def finL (xs : List Nat) : Bool := xs.all finB
theorem finL_at {xs : List Nat} (h : finL xs = true) {j : Nat} (hj : j < xs.length) : finB (xs.getD j 0) = true := by
  rw [getD_at hj]
  exact List.all_eq_true.1 h _ (List.getElem_mem hj)
theorem finL_not {xs : List Nat} {j : Nat} (hj : j < xs.length) (h : finB (xs.getD j 0) = false) : finL xs = false := by
  rw [getD_at hj] at h
  unfold finL
  rw [List.all_eq_false]
  exact ⟨_, List.getElem_mem hj, by rw [h]; simp⟩
theorem finL_yes {xs : List Nat} (h : ∀ j, j < xs.length → finB (xs.getD j 0) = true) : finL xs = true := by
  unfold finL
  rw [List.all_eq_true]
  intro x hx
  obtain ⟨i, hi, rfl⟩ := List.getElem_of_mem hx
  rw [← getD_at hi]
  exact h i hi
/-- The norm of row i, and the greatest of the first rows'. -/
def rwN (C : Nat) (xs : List Nat) (i : Nat) : Nat := (nrO (rowL C xs i) C).getD 0
def msN (C : Nat) (xs : List Nat) : Nat → Nat
  | 0 => 0
  | i + 1 => max (msN C xs i) (rwN C xs i)
theorem rwN_is {R C : Nat} {xs : List Nat} (h : finL xs = true) (hl : xs.length = R * C) {i : Nat} (hi : i < R) : nrO (rowL C xs i) C = some (rwN C xs i) ∧ rwN C xs i ≤ 9218868437227405312 := by
  obtain ⟨v, h1, h2⟩ := nrO_fin (rowL C xs i) C (fun j hj => by rw [rowL_at hj]; exact finL_at h (by rw [hl]; exact at_lt hi hj))
  unfold rwN
  rw [h1]
  exact ⟨rfl, h2⟩
theorem msN_le {R C : Nat} {xs : List Nat} (h : finL xs = true) (hl : xs.length = R * C) (i : Nat) (hi : i ≤ R) : msN C xs i ≤ 9218868437227405312 := by
  induction i with
  | zero => exact Nat.zero_le _
  | succ i ih =>
    have h1 := ih (by omega)
    have h2 := (rwN_is h hl (show i < R by omega)).2
    show max _ _ ≤ _
    omega
def nmA (r c : Int) (xs : List Nat) : Nat × Int := if rightM r c xs.length then (if finL xs then (msN c.toNat xs r.toNat, 0) else (0, 5)) else (0, 4)
/-- The greater one of two sizes, as max tells it. -/
theorem mrun_max {P : Program} {x y : Nat} (hx : x ≤ 9218868437227405312) (hy : y ≤ 9218868437227405312) (ts : Array TypeId) (t : TypeId) (w : World) : (Builtin.max_ ts t #[.float .f64 x, .float .f64 y]).run P w = .ok (.float .f64 (max x y)) w := by
  have e : Builtin.max_ ts t #[.float .f64 x, .float .f64 y] = Builtin.max2 (.float .f64 x) (.float .f64 y) := by
    unfold Builtin.max_; simp
  have nx : nanB x = false := nan_small hx
  have ny : nanB y = false := nan_small hy
  have ho := ord_num (show x < 18446744073709551616 by omega) (show y < 18446744073709551616 by omega) nx ny
  rw [place_small (by omega), place_small (by omega)] at ho
  rw [e]
  unfold Builtin.max2
  simp only
  rcases Nat.lt_trichotomy x y with h | h | h
  · rw [cmp_int, if_pos (by omega)] at ho
    rw [ho, Nat.max_eq_right (by omega)]
    rfl
  · subst h
    rw [cmp_int, if_neg (by omega), if_pos rfl] at ho
    rw [ho, Nat.max_self]
    simp only [ite_self]
    rfl
  · rw [cmp_int, if_neg (by omega), if_neg (by omega)] at ho
    rw [ho, Nat.max_eq_left (by omega)]
    rfl
/-- Row i as a part of the list. -/
theorem GRow.part {w : World} {b off : Nat} {xs : List Nat} (hc : ∀ j, j < xs.length → w.cell? ⟨b, off + j, none⟩ = some (.float .f64 (xs.getD j 0))) {C i : Nat} (h : i * C + C ≤ xs.length) : GRow w (some ⟨b, off + i * C, none⟩) (rowL C xs i) := by
  refine Or.inr ⟨b, off + i * C, rfl, fun j hj => ?_⟩
  rw [rowL_len] at hj
  rw [rowL_at hj, Nat.add_assoc]
  exact hc _ (by omega)
theorem rowL_fw {C : Nat} {xs : List Nat} (hF : FW xs) {i : Nat} (h : i * C + C ≤ xs.length) : FW (rowL C xs i) := fun x hx => by
  obtain ⟨j, hj, rfl⟩ := List.mem_map.1 hx
  have := List.mem_range.1 hj
  exact hF.at (by omega)
theorem msN_none (R : Nat) : msN 0 [] R = 0 := by
  induction R with
  | zero => rfl
  | succ R ih => show max _ _ = 0; rw [ih]; rfl
set_option maxRecDepth 100000 in
set_option maxHeartbeats 2000000 in
theorem mnorm_nocols (R : Nat) (hR : R ≤ 48) (ao : Option Addr) (cap : Nat) (w : World) (hz : (ao = none ∧ cap = 0) ∨ ∃ b off, ao = some ⟨b, off, none⟩) :
    Calls Try.prog 16 #[.agg #[.int .i64 R, .int .i64 0, .slice ao 0 cap]] w fun e w' => e = .returned (.tuple #[.float .f64 0, .int .i64 0]) ∧ Below w.heap.size w w' := by
  have c1 : ∀ w, Calls Try.prog 19 #[.agg #[.int .i64 R, .int .i64 0, .slice ao 0 cap]] w fun e w' => e = .returned (.bool true) ∧ Below w.heap.size w w' := fun w => by
    have h := mright_any R 0 ao 0 cap w
    rw [show rightM R 0 0 = true from rightM_yes (C := 0) hR (by omega)] at h
    exact h
  have pl : ∀ k : Nat, k ≤ 48 → ∀ W, Calls Try.prog 57 #[.agg #[.int .i64 R, .int .i64 0, .slice ao 0 cap], .int .i64 k, .int .i64 0] W fun e w' => e = .returned (.int .i64 0) ∧ Below W.heap.size W w' := fun k hk W => mplace_any R 0 k 0 0 0 cap ao hk (by omega) (by omega) rfl W
  have cn : ∀ W ro rc, Calls Try.prog 56 #[.slice ro 0 rc] W fun e w' => e = .returned (.float .f64 0) ∧ Below W.heap.size W w' := fun W ro rc => by
    have h := vnorm_any [] ro rc W (Or.inl rfl) (fun x hx => by simp at hx) (by simp)
    refine Calls.mono h ?_
    rintro e w' ⟨r, rfl, h1, h2⟩
    have e : r = 0 := h1.2
    subst e
    exact ⟨rfl, h2⟩
  have hmx := fun ts t W => mrun_max (P := Try.prog) (x := 0) (y := 0) (by omega) (by omega) ts t W
  rw [Nat.max_self] at hmx
  rcases hz with ⟨rfl, rfl⟩ | ⟨b, off, rfl⟩
  · go_enter Try.func16, Try.ntmps16
    go_upto_region 3 with (go_at_call 19; refine (c1 _).mono ?_; rintro e w1 ⟨rfl, b1⟩; have bb := old_one b1; have MB := (B3.new _ _ _ _ _).below b1; have a0 := MB.1; have a1 := MB.2.1; have a2 := MB.2.2.1)
    go_wp2
    go_loopg [13] 0 (fun g i wr => i = .int .i64 0 ∧ wr = w1)
    case atStart => exact ⟨rfl, rfl⟩
    case round =>
      obtain ⟨rfl, rfl⟩ := hrel
      go_wp2
      go_loopg [5, 26] R (fun g m i wr => ∃ k : Nat, k ≤ R ∧ g = R - k ∧ m = .float .f64 0 ∧ i = .int .i64 k ∧ B3 wr w.heap.size _ _ _ ∧ Below w.heap.size w wr)
      case atStart => exact ⟨0, Nat.zero_le _, rfl, rfl, rfl, MB, bb⟩
      case round =>
        clear a0 a1 a2 MB bb b1
        obtain ⟨k, hk, hg, rfl, rfl, MB, hb⟩ := hrel
        have HG2 : Hid (gk = R - k) := hg
        clear hg
        have a0 := MB.1
        have a1 := MB.2.1
        have a2 := MB.2.2.1
        by_cases hlt2 : k < R
        · have j2 : (k : Int) < (R : Int) := by omega
          have pk := pl k (by omega)
          clear pl
          have MBd := MB.drew
          have b2 := Below.refl wr.drew.heap.size wr.drew
          have HB9 : ∀ w1, Below wr.drew.heap.size wr.drew w1 → B3 w1 w.heap.size _ _ _ ∧ Below w.heap.size w w1 := fun w1 h1 => ⟨MBd.below h1, hb.trans ((undrew h1).mono hb.size)⟩
          go_wp2
          go_region_held3 (fun w' => w'.cell? ⟨w.heap.size, 0, none⟩ = some (.int .i64 R) ∧ w'.cell? ⟨w.heap.size, 1, none⟩ = some (.int .i64 0) ∧ w'.cell? ⟨w.heap.size, 2, none⟩ = some (.slice none 0 0)) (go_keep) (first
            | (go_at_call 56; refine (cn _ _ _).mono ?_; rintro e w5 ⟨rfl, b5⟩; have b6 := b2.trans (b5.mono b2.size); replace b2 := b6; have H9 := HB9 _ b2; have m0 := H9.1.1; have m1 := H9.1.2.1; have m2 := H9.1.2.2.1)
            | (go_at_call 57; refine (pk _).mono ?_; rintro e w3 ⟨rfl, b3⟩; have b6 := b2.trans (b3.mono b2.size); replace b2 := b6; have H9 := HB9 _ b2; have m0 := H9.1.1; have m1 := H9.1.2.1; have m2 := H9.1.2.2.1))
          go_wp2
          go_roundg (R - (k + 1))
          case measure => rw [HG2.out]; omega
          case rel => exact ⟨k + 1, by omega, rfl, rfl, by go_num, H9.1, H9.2⟩
        · have ek : k = R := by omega
          subst ek
          have j2 : ¬ (k : Int) < (k : Int) := by omega
          go_wp2
          exact bodyPost_ret (v := .tuple #[.float .f64 0, .int .i64 0]) (by simp [results, Try.results16, go_sem]) rfl ⟨rfl, hb⟩
  · go_enter Try.func16, Try.ntmps16
    go_upto_region 3 with (go_at_call 19; refine (c1 _).mono ?_; rintro e w1 ⟨rfl, b1⟩; have bb := old_one b1; have MB := (B3.new _ _ _ _ _).below b1; have a0 := MB.1; have a1 := MB.2.1; have a2 := MB.2.2.1)
    go_wp2
    go_loopg [13] 0 (fun g i wr => i = .int .i64 0 ∧ wr = w1)
    case atStart => exact ⟨rfl, rfl⟩
    case round =>
      obtain ⟨rfl, rfl⟩ := hrel
      go_wp2
      go_loopg [5, 26] R (fun g m i wr => ∃ k : Nat, k ≤ R ∧ g = R - k ∧ m = .float .f64 0 ∧ i = .int .i64 k ∧ B3 wr w.heap.size _ _ _ ∧ Below w.heap.size w wr)
      case atStart => exact ⟨0, Nat.zero_le _, rfl, rfl, rfl, MB, bb⟩
      case round =>
        clear a0 a1 a2 MB bb b1
        obtain ⟨k, hk, hg, rfl, rfl, MB, hb⟩ := hrel
        have HG2 : Hid (gk = R - k) := hg
        clear hg
        have a0 := MB.1
        have a1 := MB.2.1
        have a2 := MB.2.2.1
        by_cases hlt2 : k < R
        · have j2 : (k : Int) < (R : Int) := by omega
          have pk := pl k (by omega)
          clear pl
          have MBd := MB.drew
          have b2 := Below.refl wr.drew.heap.size wr.drew
          have HB9 : ∀ w1, Below wr.drew.heap.size wr.drew w1 → B3 w1 w.heap.size _ _ _ ∧ Below w.heap.size w w1 := fun w1 h1 => ⟨MBd.below h1, hb.trans ((undrew h1).mono hb.size)⟩
          go_wp2
          go_region_held3 (fun w' => w'.cell? ⟨w.heap.size, 0, none⟩ = some (.int .i64 R) ∧ w'.cell? ⟨w.heap.size, 1, none⟩ = some (.int .i64 0) ∧ w'.cell? ⟨w.heap.size, 2, none⟩ = some (.slice (some ⟨b, off, none⟩) 0 cap)) (go_keep) (first
            | (go_at_call 56; refine (cn _ _ _).mono ?_; rintro e w5 ⟨rfl, b5⟩; have b6 := b2.trans (b5.mono b2.size); replace b2 := b6; have H9 := HB9 _ b2; have m0 := H9.1.1; have m1 := H9.1.2.1; have m2 := H9.1.2.2.1)
            | (go_at_call 57; refine (pk _).mono ?_; rintro e w3 ⟨rfl, b3⟩; have b6 := b2.trans (b3.mono b2.size); replace b2 := b6; have H9 := HB9 _ b2; have m0 := H9.1.1; have m1 := H9.1.2.1; have m2 := H9.1.2.2.1))
          go_wp2
          go_roundg (R - (k + 1))
          case measure => rw [HG2.out]; omega
          case rel => exact ⟨k + 1, by omega, rfl, rfl, by go_num, H9.1, H9.2⟩
        · have ek : k = R := by omega
          subst ek
          have j2 : ¬ (k : Int) < (k : Int) := by omega
          go_wp2
          exact bodyPost_ret (v := .tuple #[.float .f64 0, .int .i64 0]) (by simp [results, Try.results16, go_sem]) rfl ⟨rfl, hb⟩
set_option maxRecDepth 100000 in
set_option maxHeartbeats 2000000 in
theorem mnorm_any (r c : Int) (xs : List Nat) (ao : Option Addr) (cap : Nat) (w : World) (hr : GRow w ao xs) (hF : FW xs) (hz : (ao = none ∧ cap = 0) ∨ ∃ b off, ao = some ⟨b, off, none⟩) (hcap : xs.length ≤ cap) (hcp : cap ≤ 17592186050000) :
    Calls Try.prog 16 #[mxV r c ao xs.length cap] w fun e w' => e = .returned (.tuple #[.float .f64 (nmA r c xs).1, .int .i64 (nmA r c xs).2]) ∧ Below w.heap.size w w' := by
  have c1 := fun w => mright_any r c ao xs.length cap w
  unfold nmA
  cases q1 : rightM r c xs.length
  · rw [q1] at c1
    go_enter Try.func16, Try.ntmps16
    go_wp2_with (go_at_call 19; refine (c1 _).mono ?_; rintro e w1 ⟨rfl, b1⟩)
    exact bodyPost_ret (v := .tuple #[.float .f64 0, .int .i64 4]) (by simp [results, Try.results16, go_sem]) rfl ⟨rfl, old_one b1⟩
  rw [q1] at c1
  obtain ⟨R, C, rfl, rfl, hR, hC, hl⟩ := rightM_nat q1
  simp only [if_true, Int.toNat_natCast]
  clear q1
  by_cases hC0 : C = 0
  · subst hC0
    have hl0 : xs.length = 0 := hl
    obtain ⟨rfl⟩ : xs = [] := List.length_eq_zero_iff.1 hl0
    rw [msN_none]
    exact mnorm_nocols R hR ao cap w hz
  have HL : Hid (xs.length = R * C) := hl
  have hm := mul48 hR hC
  rw [← hl] at hm
  clear hl
  obtain ⟨n, hn⟩ : ∃ n, xs.length = n := ⟨_, rfl⟩
  have HN : Hid (xs.length = n) := hn
  rw [hn] at c1 hcap hm ⊢
  clear hn
  cases hfl : finL xs
  · have HFL : Hid (finL xs = false) := hfl
    clear hfl
    simp only [Bool.false_eq_true, if_false]
    go_enter Try.func16, Try.ntmps16
    go_upto_region 3 with (go_at_call 19; refine (c1 _).mono ?_; rintro e w1 ⟨rfl, b1⟩; have bb := old_one b1; have MB := (B3.new _ _ _ _ _).below b1; have a0 := MB.1; have a1 := MB.2.1; have a2 := MB.2.2.1)
    go_wp2
    go_loopg [13] n (fun g i wr => ∃ k : Nat, k ≤ n ∧ g = n - k ∧ i = .int .i64 k ∧ Hid (∀ j, j < k → finB (xs.getD j 0) = true) ∧ wr = w1)
    case atStart => exact ⟨0, Nat.zero_le _, rfl, rfl, fun j hj => by omega, rfl⟩
    case round =>
      obtain ⟨k, hk, hg, rfl, hfin, rfl⟩ := hrel
      have HG : Hid (gk = n - k) := hg
      clear hg
      by_cases hlt : k < n
      · have hlt' : k < xs.length := by rw [HN.out]; exact hlt
        rcases hr.below bb with h | ⟨b, off, rfl, hc⟩
        · rw [h] at hlt'; omega
        have g1 := hc k hlt'
        have hx := hF.at hlt'
        have HF0 : Hid (finB (xs.getD k 0) = true → ∀ j, j < k + 1 → finB (xs.getD j 0) = true) := fun h j hj => by
          by_cases e : j = k
          · subst e; exact h
          · exact hfin.out j (by omega)
        have cf := fun w => mfin_any (xs.getD k 0) hx w
        generalize xs.getD k 0 = x at *
        have i1 : (k : Int) < (n : Int) := by omega
        clear hlt' hc
        cases hq : finB x
        · rw [hq] at cf
          go_wp2_with (go_at_call 55; refine (cf _).mono ?_; rintro e w' ⟨rfl, h'⟩; subst w')
          exact bodyPost_ret (v := .tuple #[.float .f64 0, .int .i64 5]) (by simp [results, Try.results16, go_sem]) rfl ⟨rfl, bb⟩
        · rw [hq] at cf
          go_wp2_with (go_at_call 55; refine (cf _).mono ?_; rintro e w' ⟨rfl, h'⟩; subst w')
          go_roundg (n - (k + 1))
          case measure => rw [HG.out]; omega
          case rel => exact ⟨k + 1, by omega, rfl, by go_num, HF0.out hq, rfl⟩
      · exfalso
        have h1 := finL_yes (xs := xs) (fun j hj => hfin.out j (by rw [HN.out] at hj; omega))
        rw [HFL.out] at h1
        cases h1
  · have HFL : Hid (finL xs = true) := hfl
    clear hfl
    simp only [if_true]
    go_enter Try.func16, Try.ntmps16
    go_upto_region 3 with (go_at_call 19; refine (c1 _).mono ?_; rintro e w1 ⟨rfl, b1⟩; have bb := old_one b1; have MB := (B3.new _ _ _ _ _).below b1; have a0 := MB.1; have a1 := MB.2.1; have a2 := MB.2.2.1)
    go_wp2
    go_loopg [13] n (fun g i wr => ∃ k : Nat, k ≤ n ∧ g = n - k ∧ i = .int .i64 k ∧ Hid (∀ j, j < k → finB (xs.getD j 0) = true) ∧ wr = w1)
    case atStart => exact ⟨0, Nat.zero_le _, rfl, rfl, fun j hj => by omega, rfl⟩
    case round =>
      obtain ⟨k, hk, hg, rfl, hfin, rfl⟩ := hrel
      have HG : Hid (gk = n - k) := hg
      clear hg
      by_cases hlt : k < n
      · have hlt' : k < xs.length := by rw [HN.out]; exact hlt
        rcases hr.below bb with h | ⟨b, off, rfl, hc⟩
        · rw [h] at hlt'; omega
        have g1 := hc k hlt'
        have hx := hF.at hlt'
        have hfx := finL_at HFL.out hlt'
        have HF1 : Hid (∀ j, j < k + 1 → finB (xs.getD j 0) = true) := fun j hj => by
          by_cases e : j = k
          · subst e; exact hfx
          · exact hfin.out j (by omega)
        have cf := fun w => mfin_any (xs.getD k 0) hx w
        rw [hfx] at cf
        generalize xs.getD k 0 = x at *
        have i1 : (k : Int) < (n : Int) := by omega
        clear hlt' hc
        go_wp2_with (go_at_call 55; refine (cf _).mono ?_; rintro e w' ⟨rfl, h'⟩; subst w')
        go_roundg (n - (k + 1))
        case measure => rw [HG.out]; omega
        case rel => exact ⟨k + 1, by omega, rfl, by go_num, HF1, rfl⟩
      · have i1 : ¬ (k : Int) < (n : Int) := by omega
        clear hfin
        go_wp2
        go_loopg [5, 26] R (fun g m i wr => ∃ k : Nat, k ≤ R ∧ g = R - k ∧ m = .float .f64 (msN C xs k) ∧ i = .int .i64 k ∧ B3 wr w.heap.size (.int .i64 R) (.int .i64 C) (.slice ao n cap) ∧ Below w.heap.size w wr)
        case atStart => exact ⟨0, Nat.zero_le _, rfl, rfl, rfl, MB, bb⟩
        case round =>
          clear a0 a1 a2 MB bb b1
          rename_i k0 _ _
          obtain ⟨k, hk, hg, rfl, rfl, MB, hb⟩ := hrel
          have HG2 : Hid (gk = R - k) := hg
          clear hg
          by_cases hlt2 : k < R
          · have j2 : (k : Int) < (R : Int) := by omega
            obtain ⟨hv1, hv2⟩ := rwN_is HFL.out HL.out hlt2
            have hms := msN_le HFL.out HL.out k hk
            have HMX : Hid (max (msN C xs k) (rwN C xs k) = msN C xs (k + 1)) := rfl
            have hmx := fun ts t W => mrun_max (P := Try.prog) hms hv2 ts t W
            have hpc : k * C + C ≤ n := by rw [← HN.out, HL.out, ← Nat.succ_mul]; exact Nat.mul_le_mul hlt2 (Nat.le_refl _)
            have pl1 := fun (ao : Option Addr) W => mplace_any R C k 0 (k * C) n cap ao (by omega) hC (by omega) (Nat.add_zero _) W
            have pl2 := fun (ao : Option Addr) W => mplace_any R C k C (k * C + C) n cap ao (by omega) hC hC rfl W
            have hrf : FW (rowL C xs k) := rowL_fw hF (by rw [HN.out]; exact hpc)
            have hrl := rowL_len C xs k
            obtain ⟨p, hp⟩ : ∃ p, k * C = p := ⟨_, rfl⟩
            rw [hp] at hpc pl1 pl2
            have HP : Hid (k * C = p) := hp
            clear hp
            have cn := fun W (ro : Option Addr) (rc : Nat) (h : GRow W ro (rowL C xs k)) => vnorm_any (rowL C xs k) ro rc W h hrf (by rw [hrl]; omega)
            rw [hrl, hv1] at cn
            generalize rwN C xs k = v at *
            generalize msN C xs k = mm at *
            have MBd := MB.drew
            have HC : ∀ w1, Below wr.drew.heap.size wr.drew w1 → w1.cell? ⟨w.heap.size, 0, none⟩ = some (.int .i64 R) ∧ w1.cell? ⟨w.heap.size, 1, none⟩ = some (.int .i64 C) ∧ w1.cell? ⟨w.heap.size, 2, none⟩ = some (.slice ao n cap) := fun w1 hb => by obtain ⟨x0, x1, x2, _⟩ := MBd.below hb; exact ⟨x0, x1, x2⟩
            have m0 := HC _ (Below.refl _ _)
            have a0 := MB.1
            have hne : ¬ cap = p := by omega
            rcases hr.below hb with h | ⟨b, off, rfl, hc⟩
            · rw [HN.out] at h; omega
            have hrow : ∀ w1, Below wr.drew.heap.size wr.drew w1 → GRow w1 (some ⟨b, off + p, none⟩) (rowL C xs k) := fun w1 h1 => by
              have h0 : GRow wr (some ⟨b, off + k * C, none⟩) (rowL C xs k) := GRow.part hc (by rw [HN.out, HP.out]; exact hpc)
              rw [HP.out] at h0
              exact h0.below (undrew h1)
            have s1 : (p : Int) ≤ (p : Int) + (C : Int) := by omega
            have s2 : (p : Int) + (C : Int) ≤ (cap : Int) := by omega
            have s5 : ((p : Int) + (C : Int)).toNat - p = C := by omega
            clear hc
            go_wp2
            go_region_held3 (fun w' => w'.cell? ⟨w.heap.size, 0, none⟩ = some (.int .i64 R) ∧ w'.cell? ⟨w.heap.size, 1, none⟩ = some (.int .i64 C) ∧ w'.cell? ⟨w.heap.size, 2, none⟩ = some (.slice (some ⟨b, off, none⟩) n cap)) (go_keep)
              (first
                | (go_at_call_of 57 (Value.int IntKind.i64 0); refine (pl1 _ _).mono ?_; rintro e w2 ⟨rfl, b2⟩; have m1 := HC _ b2)
                | (go_at_call 57; refine (pl2 _ _).mono ?_; rintro e w3 ⟨rfl, b3⟩; have b4 := b2.trans (b3.mono b2.size); have m1 := HC _ b4)
                | (go_at_call 56; refine (cn _ _ _ (hrow _ b4)).mono ?_; rintro e w5 ⟨q, rfl, nq, b5⟩; have e5 : q = v := nq.2; subst e5; have b6 := b4.trans (b5.mono b4.size); have m1 := HC _ b6))
            have hb7 := hb.trans ((undrew b6).mono hb.size)
            have MB7 := MB.below (undrew b6)
            go_wp2
            go_roundg (R - (k + 1))
            case measure => rw [HG2.out]; omega
            case rel => exact ⟨k + 1, by omega, rfl, by rw [← HMX.out], by go_num, MB7, hb7⟩
          · have ek : k = R := by omega
            subst ek
            have j2 : ¬ (k : Int) < (k : Int) := by omega
            go_wp2
            exact bodyPost_ret (v := .tuple #[.float .f64 (msN C xs k), .int .i64 0]) (by simp [results, Try.results16, go_sem]) rfl ⟨rfl, hb⟩
end Go.Proofs.Ythbnffnoldmcnaa
