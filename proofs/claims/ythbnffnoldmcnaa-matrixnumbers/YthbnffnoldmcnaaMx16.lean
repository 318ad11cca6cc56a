/- What Mul and Apply of the document answer, right or not. -/
import Derived.Test.YthbnffnoldmcnaaMx15
import Derived.Test.YthbnffnoldmcnaaMx9
import Derived.Test.YthbnffnoldmcnaaMx8
namespace Go.Proofs.Ythbnffnoldmcnaa
open Go.RowKit

set_option maxHeartbeats 2000000 in
theorem rmul_any (r c : Int) (xs : List Nat) (r2 c2 : Int) (ys : List Nat) (ao bo : Option Addr) (cap cap2 : Nat) (w : World) (hr : GRow w ao xs) (hs : GRow w bo ys) (hF : FW xs) (hG : FW ys) :
    Calls Try.prog 36 #[mxV r c ao xs.length cap, mxV r2 c2 bo ys.length cap2] w fun e w' => GaveA w (mlA r c xs r2 c2 ys) e w' := by
  have c1 := fun w => rright_any r c ao xs.length cap w
  have c2' := fun w => rright_any r2 c2 bo ys.length cap2 w
  unfold mlA
  cases q1 : rightM r c xs.length
  · rw [q1] at c1
    rw [Bool.false_and, Bool.false_and, if_neg (by decide)]
    clear c2' hr hs hF hG q1
    generalize xs.length = n at *
    generalize ys.length = m at *
    go_enter Try.func36, Try.ntmps36
    go_wp2_with (go_at_call 24; refine (c1 _).mono ?_; rintro e w1 ⟨rfl, b1⟩; have bb := old_three b1; have MA := (((B3.new _ _ _ _ _).alloc _).alloc _).below b1; have MB := ((B3.newAt (n := w.heap.size + 1) (by go_simp) _ _ _ _).alloc _).below b1; have RB := (B3.newAt (n := w.heap.size + 1 + 1) (by go_simp) _ _ _ _).below b1; have a0 := MA.1; have a1 := MA.2.1; have a2 := MA.2.2.1; have d0 := MB.1; have d1 := MB.2.1; have d2 := MB.2.2.1; obtain ⟨t0, t1, t2, s0, s1, s2, hlt⟩ := id RB)
    exact bodyPost_ret (v := .tuple #[.agg #[.int .i64 0, .int .i64 0, .slice none 0 0], .int .i64 4]) (by simp [results, Try.results36, go_sem, t0, t1, t2]) rfl ⟨_, rfl, GaveF.none_put bb (by omega) _ _ _⟩
  cases q2 : rightM r2 c2 ys.length
  · rw [q1] at c1
    rw [q2] at c2'
    rw [Bool.true_and, Bool.false_and, if_neg (by decide)]
    clear hr hs hF hG q1 q2
    generalize xs.length = n at *
    generalize ys.length = m at *
    go_enter Try.func36, Try.ntmps36
    go_wp2_with (first | (go_at_call_of 24 (Value.agg #[Value.int IntKind.i64 r, Value.int IntKind.i64 c, Value.slice ao n cap]); refine (c1 _).mono ?_; rintro e w1 ⟨rfl, b1⟩; have bb := old_three b1; have MA := (((B3.new _ _ _ _ _).alloc _).alloc _).below b1; have MB := ((B3.newAt (n := w.heap.size + 1) (by go_simp) _ _ _ _).alloc _).below b1; have RB := (B3.newAt (n := w.heap.size + 1 + 1) (by go_simp) _ _ _ _).below b1; have a0 := MA.1; have a1 := MA.2.1; have a2 := MA.2.2.1; have d0 := MB.1; have d1 := MB.2.1; have d2 := MB.2.2.1; obtain ⟨t0, t1, t2, s0, s1, s2, hlt⟩ := id RB) | (go_at_call_of 24 (Value.agg #[Value.int IntKind.i64 r2, Value.int IntKind.i64 c2, Value.slice bo m cap2]); refine (c2' _).mono ?_; rintro e w2 ⟨rfl, b2⟩; have ca := bb.trans (b2.mono bb.size); replace MA := MA.below b2; replace MB := MB.below b2; replace RB := RB.below b2; have a0 := MA.1; have a1 := MA.2.1; have a2 := MA.2.2.1; have d0 := MB.1; have d1 := MB.2.1; have d2 := MB.2.2.1; obtain ⟨t0, t1, t2, s0, s1, s2, hlt⟩ := id RB))
    exact bodyPost_ret (v := .tuple #[.agg #[.int .i64 0, .int .i64 0, .slice none 0 0], .int .i64 4]) (by simp [results, Try.results36, go_sem, t0, t1, t2]) rfl ⟨_, rfl, GaveF.none_put ca (by omega) _ _ _⟩
  by_cases q3 : c = r2
  · obtain ⟨R, C, rfl, rfl, hR, hC, hl⟩ := rightM_nat q1
    obtain ⟨C', D, e1, rfl, _, hD, hm⟩ := rightM_nat q2
    have e2 : C' = C := by omega
    subst e2
    clear e1
    subst q3
    rw [decide_eq_true rfl, Bool.true_and, Bool.true_and, if_pos rfl]
    simp only [Int.toNat_natCast]
    exact rmul_R R C' D xs ys ao bo cap cap2 w hr hs hF hG hl hm hR hC hD
  · rw [q1] at c1
    rw [q2] at c2'
    rw [Bool.true_and, decide_eq_false q3, if_neg (by decide)]
    have b9 : (c != r2) = true := by simp [q3]
    clear hr hs hF hG q1 q2 q3
    generalize xs.length = n at *
    generalize ys.length = m at *
    go_enter Try.func36, Try.ntmps36
    go_wp2_with (first | (go_at_call_of 24 (Value.agg #[Value.int IntKind.i64 r, Value.int IntKind.i64 c, Value.slice ao n cap]); refine (c1 _).mono ?_; rintro e w1 ⟨rfl, b1⟩; have bb := old_three b1; have MA := (((B3.new _ _ _ _ _).alloc _).alloc _).below b1; have MB := ((B3.newAt (n := w.heap.size + 1) (by go_simp) _ _ _ _).alloc _).below b1; have RB := (B3.newAt (n := w.heap.size + 1 + 1) (by go_simp) _ _ _ _).below b1; have a0 := MA.1; have a1 := MA.2.1; have a2 := MA.2.2.1; have d0 := MB.1; have d1 := MB.2.1; have d2 := MB.2.2.1; obtain ⟨t0, t1, t2, s0, s1, s2, hlt⟩ := id RB) | (go_at_call_of 24 (Value.agg #[Value.int IntKind.i64 r2, Value.int IntKind.i64 c2, Value.slice bo m cap2]); refine (c2' _).mono ?_; rintro e w2 ⟨rfl, b2⟩; have ca := bb.trans (b2.mono bb.size); replace MA := MA.below b2; replace MB := MB.below b2; replace RB := RB.below b2; have a0 := MA.1; have a1 := MA.2.1; have a2 := MA.2.2.1; have d0 := MB.1; have d1 := MB.2.1; have d2 := MB.2.2.1; obtain ⟨t0, t1, t2, s0, s1, s2, hlt⟩ := id RB))
    exact bodyPost_ret (v := .tuple #[.agg #[.int .i64 0, .int .i64 0, .slice none 0 0], .int .i64 4]) (by simp [results, Try.results36, go_sem, t0, t1, t2]) rfl ⟨_, rfl, GaveF.none_put ca (by omega) _ _ _⟩
theorem own_later {w w' : World} {b : Nat} {e : TypeId} {v : Value} {n : Nat} {xs : List Value} (h : w.ownsRow b e 1 v n xs) (hb : Below w.heap.size w w') : w'.ownsRow b e 1 v n xs := by
  have hl := h.lt
  refine ⟨h.1, ?_⟩
  rcases h.2 with hn | ⟨g, cap, cur, rfl, h2, h3, h4⟩
  · exact Or.inl hn
  · exact Or.inr ⟨g, cap, cur, rfl, h2, by rw [hb.block g (hl g rfl).2]; exact h3, h4⟩
set_option maxRecDepth 100000 in
set_option maxHeartbeats 4000000 in
theorem rapply_any (r c : Int) (xs ys : List Nat) (ao bo : Option Addr) (cap cap2 : Nat) (w : World) (hr : GRow w ao xs) (hs : GRow w bo ys) (hF : FW xs) (hG : FW ys) (hm : ys.length ≤ 17592186044416) :
    Calls Try.prog 38 #[mxV r c ao xs.length cap, .slice bo ys.length cap2] w fun e w' => ∃ v, e = .returned (.tuple #[v, .int .i64 (apA r c xs ys).2]) ∧ GaveF w (apA r c xs ys).1 v w' := by
  have c1 := fun w => rright_any r c ao xs.length cap w
  unfold apA mlA
  cases q1 : rightM r c xs.length
  · rw [q1] at c1
    rw [Bool.false_and, Bool.false_and, if_neg (by decide)]
    generalize xs.length = n at *
    go_enter Try.func38, Try.ntmps38
    go_wp2_with (go_at_call 24; refine (c1 _).mono ?_; rintro e w1 ⟨rfl, b1⟩; have bb := old_one b1; have MA := (B3.new _ _ _ _ _).below b1; have a0 := MA.1; have a1 := MA.2.1; have a2 := MA.2.2.1)
    exact bodyPost_ret (v := .tuple #[.slice none 0 0, .int .i64 4]) (by simp [results, Try.results38, go_sem]) rfl ⟨_, rfl, GaveF.nil bb⟩
  rw [q1] at c1
  obtain ⟨R, C, rfl, rfl, hR, hC, hl⟩ := rightM_nat q1
  have e1 : rightM C 1 ys.length = decide (ys.length = C) := by
    unfold rightM
    rw [okN_iff.2 ⟨by omega, by omega⟩, show okN 1 = true from rfl, Int.mul_one]
    by_cases h : ys.length = C
    · rw [h]; simp
    · rw [decide_eq_false h, decide_eq_false (by omega)]; rfl
  rw [e1, Bool.true_and, decide_eq_true rfl, Bool.and_true]
  clear q1 e1
  by_cases hy : ys.length = C
  case neg =>
    rw [decide_eq_false hy, if_neg (by decide)]
    have b9 : ((ys.length : Int) != (C : Int)) = true := by simp; omega
    clear hl hy
    generalize xs.length = n at *
    go_enter Try.func38, Try.ntmps38
    go_wp2_with (go_at_call 24; refine (c1 _).mono ?_; rintro e w1 ⟨rfl, b1⟩; have bb := old_one b1; have MA := (B3.new _ _ _ _ _).below b1; have a0 := MA.1; have a1 := MA.2.1; have a2 := MA.2.2.1)
    exact bodyPost_ret (v := .tuple #[.slice none 0 0, .int .i64 4]) (by simp [results, Try.results38, go_sem]) rfl ⟨_, rfl, GaveF.nil bb⟩
  rw [decide_eq_true hy, if_pos rfl]
  have HX : Hid (xs.length = R * C) := hl
  have HY : Hid (ys.length = C) := hy
  have b9 : ((ys.length : Int) != (C : Int)) = false := by simp; omega
  clear hl hy
  simp only [Int.toNat_natCast, show (1 : Int).toNat = 1 from rfl]
  obtain ⟨n, hn⟩ : ∃ n, xs.length = n := ⟨_, rfl⟩
  have HXn : Hid (xs.length = n) := hn
  rw [hn] at c1 ⊢
  clear hn
  obtain ⟨i0, hi, hz0, hz1, hz2⟩ := info_parts Try.infoF
  go_enter Try.func38, Try.ntmps38
  go_upto_region 4 with (go_at_call 24; refine (c1 _).mono ?_; rintro e w1 ⟨rfl, b1⟩; have bb := old_one b1; have MA := (B3.new _ _ _ _ _).below b1; have a0 := MA.1; have a1 := MA.2.1; have a2 := MA.2.2.1)
  clear c1 b1 a0 a1 a2
  go_wp2
  go_loopg [6, 7] R (fun gg v s wr => ∃ (i : Nat) (rs : List Nat), i ≤ R ∧ gg = R - i ∧ s = .int .i64 i ∧ Hid (rs.length = i) ∧ Hid (∀ j, j < i → NR (muO C 1 xs ys j 0 C) (rs.getD j 0)) ∧ wr.ownsRow (w.heap.size + 1) 31 1 v i (fv rs) ∧ B3 wr w.heap.size (.int .i64 R) (.int .i64 C) (.slice ao n cap) ∧ w.heap.size + 1 ≤ wr.heap.size ∧ Below w.heap.size w wr)
  case atStart => exact ⟨0, [], Nat.zero_le _, rfl, rfl, rfl, fun j hj => by omega, World.ownsRow_nil _ _ _ _, MA, MA.2.2.2.2.2.2, bb⟩
  case round =>
    clear MA bb
    obtain ⟨i, rs, hi', hgg, rfl, hrl, hv, hown, MA, hsz, hb⟩ := hrel
    have HG : Hid (gk = R - i) := hgg
    clear hgg
    have a0 := MA.1
    by_cases hlt : i < R
    · have j1 : (i : Int) < (R : Int) := by omega
      generalize wr = wv at *
      go_wp2
      go_loopg [8, 9] C (fun gg s q wr => ∃ (k t : Nat), k ≤ C ∧ gg = C - k ∧ s = .float .f64 t ∧ q = .int .i64 k ∧ Hid (NR (muO C 1 xs ys i 0 k) t) ∧ Below wv.heap.size wv wr)
      case atStart => exact ⟨0, 0, Nat.zero_le _, rfl, rfl, rfl, ⟨by omega, rfl⟩, Below.refl _ _⟩
      case round =>
        obtain ⟨k, t, hk, hgg, rfl, rfl, hsum, hbv⟩ := hrel
        have HG3 : Hid (gk = C - k) := hgg
        clear hgg a0
        obtain ⟨a0, a1, a2, _⟩ := id (MA.below hbv)
        have bwv := hb.trans (hbv.mono hb.size)
        by_cases hlt3 : k < C
        · have j3 : (k : Int) < (C : Int) := by omega
          have hp : i * C + k < xs.length := by rw [HX.out]; exact at_lt hlt hlt3
          have hq : k < ys.length := by rw [HY.out]; exact hlt3
          have j4 : (k : Int) < (ys.length : Int) := by omega
          have ce := fun W h => rat_any xs R C i k (i * C + k) n cap ao W h (by omega) hC (by omega) rfl hp HXn.out
          have HSU : Hid (∀ W W', NR (muO C 1 xs ys i 0 (k + 1)) (opR .add t (opR .mul (xs.getD (i * C + k) 0) (ys.getD k 0) W) W')) := fun W W' => by
            rw [muO]
            have e : enO 1 ys k 0 = toO (ys.getD k 0) := by unfold enO; rw [Nat.mul_one, Nat.add_zero]
            rw [e]
            exact opO_NR (Or.inl rfl) hsum.out (opO_NR opMu (toO_NR (hF.at hp)) (toO_NR (hG.at hq)) W) W'
          rcases hs.below bwv with h | ⟨b, off, rfl, hc⟩
          · omega
          have g1 := hc k hq
          generalize xs.getD (i * C + k) 0 = x at *
          generalize ys.getD k 0 = y at *
          have h1 := fun x y w => run_op4 (P := Try.prog) (op := .mul) opMu 31 x y w
          have h2 := fun x y w => run_op4 (P := Try.prog) (op := .add) (Or.inl rfl) 31 x y w
          have hcv := conv64
          have ha := (MA.below hbv).drew
          have hr' : GRow wr.drew ao xs := hr.below bwv.drew
          have HB := hbv.drew
          have HA : ∀ w1, Below wr.drew.heap.size wr.drew w1 → w1.cell? ⟨w.heap.size, 0, none⟩ = some (.int .i64 R) ∧ w1.cell? ⟨w.heap.size, 1, none⟩ = some (.int .i64 C) ∧ w1.cell? ⟨w.heap.size, 2, none⟩ = some (.slice ao n cap) ∧ w1.cell? ⟨b, off + k, none⟩ = some (.float .f64 y) := fun w1 h => by obtain ⟨x0, x1, x2, _⟩ := ha.below h; exact ⟨x0, x1, x2, by rw [h.cell (World.block_lt_of_cell? wr _ g1)]; exact g1⟩
          have hop : ∀ W a, (opW .mul x y W).cell? a = W.cell? a := fun W a => by unfold World.cell?; rw [opW_heap]
          clear ha bwv hc hp hq hsum
          go_wp2
          first | (go_region_held (fun w' => w'.cell? ⟨w.heap.size, 0, none⟩ = some (.int .i64 R) ∧ w'.cell? ⟨w.heap.size, 1, none⟩ = some (.int .i64 C) ∧ w'.cell? ⟨w.heap.size, 2, none⟩ = some (.slice ao n cap) ∧ w'.cell? ⟨b, off + k, none⟩ = some (.float .f64 y)) (go_keep)
           (first
            | (go_at_call 63; refine (ce _ hr').mono ?_; rintro e w1 ⟨rfl, hb1⟩; have hA1 := HA _ hb1; have HB1 := HB.trans (hb1.mono HB.size)))) | fail
          all_goals
            go_wp2
            go_roundg (C - (k + 1))
            case measure => rw [HG3.out]; omega
            case rel => exact ⟨k + 1, _, by omega, rfl, rfl, by go_num, HSU.out _ _, opW_below .add t _ (opW_below .mul x y HB1)⟩
        · have ek : k = C := by omega
          subst ek
          have j3 : ¬ (k : Int) < (k : Int) := by omega
          have hown2 : wr.ownsRow (w.heap.size + 1) 31 1 u6 i (fv rs) := own_later hown hbv
          have hsz2 : w.heap.size + 1 ≤ wr.heap.size := Nat.le_trans hsz hbv.size
          have HW : ∀ o, w.heap.size + 1 ≤ (wr.alloc o).heap.size := fun o => by simp; omega
          have HSN : Hid ((rs ++ [t]).length = i + 1 ∧ ∀ j, j < i + 1 → NR (muO k 1 xs ys j 0 k) ((rs ++ [t]).getD j 0)) := NR_snoc hrl.out hv.out hsum.out
          have MA2 := MA.below hbv
          clear hv hsum hown
          go_wp2_with (at_builtin; refine wpList_append_own _ rfl _ _ 22 rfl (w.heap.size + 1) 31 i0 (.float .f64 0) 1 8 Try.underlying22 hi hz0 hz1 hz2 rfl (by decide) _ _ _ rfl (hown2.alloc _) _ 1 1 [.float .f64 t] rfl rfl (World.news_of_block (cs := #[.float .f64 t]) (t := 31) (fr := (0, 0)) (heap_alloc_new _ _)) (by simp [Value.oneCell']) (by unfold maxLen; omega) (by omega) (HW _) ?_; intro v' w2 hown1 hgrow _)
          have hb2 : Below (w.heap.size + 1) wr w2 := ((Below.refl _ _).alloc hsz2 _).grown hgrow (HW _) (fun k hk => (hown2.lt k hk).1)
          have hown3 : w2.ownsRow (w.heap.size + 1) 31 1 v' (i + 1) (fv (rs ++ [t])) := by rw [fv_snoc]; exact hown1
          have MA3 : B3 w2 w.heap.size (.int .i64 R) (.int .i64 k) (.slice ao n cap) := MA2.past hb2 (by omega)
          have hb4 := bwv.trans (hb2.mono (by omega))
          have hsz4 : w.heap.size + 1 ≤ w2.heap.size := Nat.le_trans hsz2 hb2.size
          clear hown1 hgrow HW hown2 hb2
          go_roundg (R - (i + 1))
          case measure => rw [HG.out]; omega
          case rel => exact ⟨i + 1, rs ++ [t], by omega, rfl, by go_num, HSN.out.1, HSN.out.2, hown3, MA3, hsz4, hb4⟩
    · have ei : i = R := by omega
      subst ei
      have j1 : ¬ (i : Int) < (i : Int) := by omega
      have hG2 : GaveF w (tabM i 1 (fun i j => muO C 1 xs ys i j C)) u6 wr := by
        obtain ⟨zo, zc, e, g1, g2, g3⟩ := owned_grow (xs := rs) (by rw [hrl.out]; exact hown)
        refine ⟨zo, zc, rs, e, ⟨by rw [tabM_len, Nat.mul_one]; exact hrl.out, fun q hq => ?_⟩, g1, g2, g3.mono (by omega), hb⟩
        rw [tabM_len, Nat.mul_one] at hq
        have h1 := tabM_at (R := i) (C := 1) (o := fun i j => muO C 1 xs ys i j C) hq (show 0 < 1 by omega)
        rw [Nat.mul_one, Nat.add_zero] at h1
        rw [h1]
        exact hv.out q hq
      clear hv hown
      go_wp2
      exact bodyPost_ret (v := .tuple #[u6, .int .i64 0]) (by simp [results, Try.results38, go_sem]) rfl ⟨_, rfl, hG2⟩
end Go.Proofs.Ythbnffnoldmcnaa
