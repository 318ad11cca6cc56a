/- What sum of layer 6's laws answers where a float is not finite; apart, size, atMost. -/
import Derived.Test.YtfhejejfeffdcaaDoorLo2
namespace Go.Proofs.YtfhejejfeffdcaaDoor
open Go.RowKit

/-- What sum of the laws hands back where a float is not finite. -/
def GaveNo (w : World) (e : Ending) (w' : World) : Prop :=
  ∃ (D : Dy) (a : Option Addr) (c : Nat), e = .returned (.tuple #[.agg #[.bool D.neg, .slice a D.mag.length c, .int .i64 D.exp], .agg #[.bool D.neg, .slice a D.mag.length c, .int .i64 D.exp], .bool false]) ∧ Below w.heap.size w w'
set_option maxRecDepth 100000 in
set_option maxHeartbeats 8000000 in
theorem lsum_stop (xs : List Nat) (ao : Option Addr) (cap K : Nat) (Dx Dz T U : Nat → Dy) (w : World) (hT : TabW w) (hr : GRow w ao xs) (hF : FW xs) (hn : xs.length ≤ 1125899906842624) (hK : K < xs.length)
    (hO : ∀ k, k < K → ofD (xs.getD k 0) = (Dx k, 0) ∧ Lm (Dx k).mag ∧ ofD (rung (xs.getD k 0)) = (Dz k, 0) ∧ Lm (Dz k).mag) (hT0 : T 0 = dy0) (hU0 : U 0 = dy0)
    (hA : ∀ k, k < K → addD (T k) (Dx k) = (T (k + 1), 0) ∧ addD (U k) (Dz k) = (U (k + 1), 0)) (hL : ∀ k, k ≤ K → Lm (T k).mag ∧ Lm (U k).mag) (hno : ofD (xs.getD K 0) = (dy0, 5) ∧ ofD (rung (xs.getD K 0)) = (dy0, 5)) :
    Calls Tryd.prog 6 #[.slice ao xs.length cap] w (GaveNo w) := by
  have oi := fun W h => Int_any 0 (by decide) (by decide) W h
  rw [int_zero] at oi
  go_enter Tryd.func6, Tryd.ntmps6
  go_upto_region 2 with (first
    | (go_at_call 21; refine (oi _ hT1).mono ?_; rintro e w2 ⟨a2, c2, rfl, _, _, x2⟩)
    | (go_at_call 21; refine (oi _ (tabW_alloc (tabW_alloc hT _) _)).mono ?_; rintro e w1 ⟨a1, c1, rfl, _, _, x1⟩; have hT1 := tabW_below (tabW_alloc (tabW_alloc hT _) _) x1))
  have S0 : SumS w ((w2.alloc (.cells #[.bool dy0.neg, .slice a1 dy0.mag.length c1, .int .i64 dy0.exp] 32)).alloc (.cells #[.bool dy0.neg, .slice a2 dy0.mag.length c2, .int .i64 dy0.exp] 32)) dy0 dy0 a1 c1 a2 c2 w2.heap.size := SumS.new (a := a1) (c := c1) (b := a2) (d := c2) (bth3 x1 x2)
  clear x1 x2 hT1 oi
  generalize (w2.alloc (.cells #[.bool dy0.neg, .slice a1 dy0.mag.length c1, .int .i64 dy0.exp] 32)).alloc (.cells #[.bool dy0.neg, .slice a2 dy0.mag.length c2, .int .i64 dy0.exp] 32) = W0 at *
  generalize w2.heap.size = Q at *
  go_wp2
  go_loopg [7] xs.length (fun g i wr => ∃ k : Nat, ∃ a c b d, k ≤ K ∧ g = xs.length - k ∧ i = .int .i64 k ∧ Hid (SumS w wr (T k) (U k) a c b d Q))
  case atStart => exact ⟨0, a1, c1, a2, c2, Nat.zero_le _, rfl, rfl, by rw [hT0, hU0]; exact S0⟩
  case round =>
    obtain ⟨k, a, c, b, d, hk, hg, rfl, hS⟩ := hrel
    have HG : Hid (gk = xs.length - k) := hg
    clear hg S0
    by_cases hlt : k < K
    · have S0 := hS.out
      rcases hr.below S0.bel with h | ⟨bx, off, rfl, hc⟩
      · omega
      · have T0 := tabW_below hT S0.bel
        have hlt2 : k < xs.length := by omega
        have g1 := hc k hlt2
        have gB := World.block_lt_of_cell? wr _ g1
        have hx := hF.at hlt2
        obtain ⟨o1, o2, o3, o4⟩ := hO k hlt
        obtain ⟨q1, q2⟩ := hA k hlt
        obtain ⟨q3, q4⟩ := hL k hk
        have i1 : (k : Int) < (xs.length : Int) := by omega
        generalize xs.getD k 0 = x at *
        have ox := fun W h => Of_any x hx W h
        have oy := fun W h => Of_any (rung x) (Nat.lt_of_lt_of_le (rung_lt x) (by decide)) W h
        have ob := abs_any x hx
        rw [o1] at ox
        rw [o3] at oy
        have oa := fun ao bo cap bcap w h1 h2 h3 => Add_any (T k) (Dx k) ao bo cap bcap w h1 h2 q3 o2 h3
        have oc := fun ao bo cap bcap w h1 h2 h3 => Add_any (U k) (Dz k) ao bo cap bcap w h1 h2 q4 o4 h3
        rw [q1] at oa
        rw [q2] at oc
        clear hc hO hA hL hF o1 o3 q1 q2
        generalize Dx k = X at *
        generalize Dz k = Y at *
        generalize T k = D at *
        generalize U k = Z at *
        obtain ⟨D', hD'⟩ : ∃ D', T (k + 1) = D' := ⟨_, rfl⟩
        obtain ⟨Z', hZ'⟩ : ∃ Z', U (k + 1) = Z' := ⟨_, rfl⟩
        rw [hD'] at oa
        rw [hZ'] at oc
        have HDZ : Hid (T (k + 1) = D' ∧ U (k + 1) = Z') := ⟨hD', hZ'⟩
        clear hD' hZ'
        go_upto_region 6 with (go_at_call 22; refine (ox _ T0).mono ?_; rintro e w3 ⟨ax, cx, rfl, rx, fx, b3⟩)
        obtain ⟨V1, hV1⟩ : ∃ V, w3.alloc (.cells #[.bool X.neg, .slice ax X.mag.length cx, .int .i64 X.exp] 32) = V := ⟨_, rfl⟩
        have B1 : Below wr.heap.size wr V1 := by rw [← hV1]; exact bth3 b3 (bal _ _)
        have HX : Hd V1 w3.heap.size X ax cx := by rw [← hV1]; exact Hd.new rx
        rw [hV1]
        clear hV1 rx fx b3 ox
        have S1 := S0.below B1
        have T1 := tabW_below T0 B1
        have g2 : V1.cell? ⟨bx, off + k, none⟩ = some (.float .f64 x) := by rw [B1.cell gB]; exact g1
        clear S0 T0 g1 gB B1
        generalize w3.heap.size = PX at *
        go_upto_region 7 with (first
          | (go_at_call 23; refine (ob _).mono ?_; rintro e w' ⟨rfl, hw'⟩; subst w')
          | (go_at_call 22; refine (oy _ T1).mono ?_; rintro e w4 ⟨ay, cy, rfl, ry, fy, b4⟩))
        obtain ⟨V2, hV2⟩ : ∃ V, w4.alloc (.cells #[.bool Y.neg, .slice ay Y.mag.length cy, .int .i64 Y.exp] 32) = V := ⟨_, rfl⟩
        have B2 : Below V1.heap.size V1 V2 := by rw [← hV2]; exact bth3 b4 (bal _ _)
        have HY : Hd V2 w4.heap.size Y ay cy := by rw [← hV2]; exact Hd.new ry
        rw [hV2]
        have lY : Q + 1 < w4.heap.size := Nat.lt_of_lt_of_le S1.top b4.size
        have nY : Nob Q Y ay := nob_frs fy S1.top
        clear hV2 ry fy b4 oy ob
        have S2 := S1.below B2
        have T2 := tabW_below T1 B2
        replace HX := HX.below B2
        clear S1 T1 g2 B2
        generalize w4.heap.size = PY at *
        obtain ⟨p0, p1, p2, pr⟩ := id S2.h5
        obtain ⟨x0, x1, x2, xr⟩ := id HX
        have tp := S2.top
        go_upto_region 10 with (go_at_call 24; refine (oa _ _ _ _ _ pr xr T2).mono ?_; rintro e w5 ⟨ae, ce, rfl, re, fe, b5⟩; have S3 := S2.below b5; obtain ⟨p0, p1, p2, _⟩ := id S3.h5; obtain ⟨f0, f1, f2⟩ := id S3.z5)
        have S4 := S3.put5 (c' := ce) re (nob_frs fe tp)
        replace HY := HY.below b5
        have fq : ∀ b' off, ay = some ⟨b', off, none⟩ → Y.mag.length ≠ 0 → b' ≠ Q := fun b' off e l => by have := nY b' off e l; omega
        have HY4 := HY.oth (q := Q) (by omega) (.bool D'.neg) (.slice ae D'.mag.length ce) (.int .i64 D'.exp) (((HY.row.setCell _ fq).setCell _ fq).setCell _ fq)
        generalize ((w5.setCell ⟨Q, 0, none⟩ (.bool D'.neg)).setCell ⟨Q, 1, none⟩ (.slice ae D'.mag.length ce)).setCell ⟨Q, 2, none⟩ (.int .i64 D'.exp) = V3 at *
        have T4 := tabW_below hT S4.bel
        have tp4 := S4.top
        clear p0 p1 p2 pr x0 x1 x2 xr f0 f1 f2 S2 S3 T2 b5 HX HY fq re fe oa tp
        obtain ⟨p0, p1, p2, pr⟩ := id S4.h6
        obtain ⟨x0, x1, x2, xr⟩ := id HY4
        go_upto_region 11 with (go_at_call 24; refine (oc _ _ _ _ _ pr xr T4).mono ?_; rintro e w6 ⟨ag, cg, rfl, rg, fg, b6⟩; have S5 := S4.below b6; obtain ⟨p0, p1, p2, _⟩ := id S5.h6; obtain ⟨f0, f1, f2⟩ := id S5.z6)
        have S6 := S5.put6 (d' := cg) rg (nob_frs fg tp4)
        generalize ((w6.setCell ⟨Q + 1, 0, none⟩ (.bool Z'.neg)).setCell ⟨Q + 1, 1, none⟩ (.slice ag Z'.mag.length cg)).setCell ⟨Q + 1, 2, none⟩ (.int .i64 Z'.exp) = V4 at *
        clear p0 p1 p2 pr x0 x1 x2 xr f0 f1 f2 S4 S5 T4 b6 HY4 rg fg oc tp4 hT
        go_wp2
        go_roundg (xs.length - (k + 1))
        case measure => rw [HG.out]; omega
        case rel => exact ⟨k + 1, _, _, _, _, by omega, rfl, by go_num, by rw [HDZ.out.1, HDZ.out.2]; exact S6⟩
    · have ek : k = K := by omega
      subst ek
      have S0 := hS.out
      rcases hr.below S0.bel with h | ⟨bx, off, rfl, hc⟩
      · omega
      · have T0 := tabW_below hT S0.bel
        have g1 := hc k hK
        have gB := World.block_lt_of_cell? wr _ g1
        have hx := hF.at hK
        obtain ⟨o1, o3⟩ := hno
        have i1 : (k : Int) < (xs.length : Int) := by omega
        generalize xs.getD k 0 = x at *
        have ox := fun W h => Of_any x hx W h
        have oy := fun W h => Of_any (rung x) (Nat.lt_of_lt_of_le (rung_lt x) (by decide)) W h
        have ob := abs_any x hx
        rw [o1] at ox
        rw [o3] at oy
        clear hc hO hA hL hF o1 o3
        generalize T k = D at *
        generalize U k = Z at *
        go_upto_region 6 with (go_at_call 22; refine (ox _ T0).mono ?_; rintro e w3 ⟨ax, cx, rfl, rx, fx, b3⟩)
        obtain ⟨V1, hV1⟩ : ∃ V, w3.alloc (.cells #[.bool dy0.neg, .slice ax dy0.mag.length cx, .int .i64 dy0.exp] 32) = V := ⟨_, rfl⟩
        have B1 : Below wr.heap.size wr V1 := by rw [← hV1]; exact bth3 b3 (bal _ _)
        rw [hV1]
        clear hV1 rx fx b3 ox
        have S1 := S0.below B1
        have T1 := tabW_below T0 B1
        have g2 : V1.cell? ⟨bx, off + k, none⟩ = some (.float .f64 x) := by rw [B1.cell gB]; exact g1
        clear S0 T0 g1 gB B1
        generalize w3.heap.size = PX at *
        go_upto_region 7 with (first
          | (go_at_call 23; refine (ob _).mono ?_; rintro e w' ⟨rfl, hw'⟩; subst w')
          | (go_at_call 22; refine (oy _ T1).mono ?_; rintro e w4 ⟨ay, cy, rfl, ry, fy, b4⟩))
        obtain ⟨V2, hV2⟩ : ∃ V, w4.alloc (.cells #[.bool dy0.neg, .slice ay dy0.mag.length cy, .int .i64 dy0.exp] 32) = V := ⟨_, rfl⟩
        have B2 : Below V1.heap.size V1 V2 := by rw [← hV2]; exact bth3 b4 (bal _ _)
        rw [hV2]
        clear hV2 ry fy b4 oy ob
        have S2 := S1.below B2
        clear S1 T1 g2 B2
        generalize w4.heap.size = PY at *
        obtain ⟨p0, p1, p2, pr⟩ := id S2.h5
        obtain ⟨s0, s1, s2, _⟩ := id S2.h2
        obtain ⟨t0, t1, t2, _⟩ := id S2.h3
        obtain ⟨f0, f1, f2⟩ := id S2.z2
        obtain ⟨e0, e1, e2⟩ := id S2.z3
        have l1 := S2.lt
        have m1 : ¬ w.heap.size = w.heap.size + 1 := by omega
        have m2 : ¬ w.heap.size + 1 = w.heap.size := by omega
        have m3 : ¬ w.heap.size = Q := by omega
        have m4 : ¬ w.heap.size + 1 = Q := by omega
        have m7 : ¬ Q = w.heap.size := by omega
        have m8 : ¬ Q = w.heap.size + 1 := by omega
        go_upto_region 8 with fail
        go_region
        all_goals
          go_wp2
          refine bodyPost_ret (v := .tuple #[.agg #[.bool D.neg, .slice a D.mag.length c, .int .i64 D.exp], .agg #[.bool D.neg, .slice a D.mag.length c, .int .i64 D.exp], .bool false]) (by simp [results, Tryd.results6, go_sem, s0, s1, s2, t0, t1, t2]) rfl ⟨_, _, _, rfl, ?_⟩
          have h0 : ∀ i, w.heap.size ≤ (⟨w.heap.size, i, none⟩ : Addr).block := fun _ => Nat.le_refl _
          have h1 : ∀ i, w.heap.size ≤ (⟨w.heap.size + 1, i, none⟩ : Addr).block := fun _ => Nat.le_succ _
          refine Below.drew ?_
          exact ((((((S2.bel.setCell (h0 0) _).setCell (h0 1) _).setCell (h0 2) _).setCell (h1 0) _).setCell (h1 1) _).setCell (h1 2) _)
end Go.Proofs.YtfhejejfeffdcaaDoor
