/- What Mul of the document answers. -/
import Derived.Test.YthbnffnoldmcnaaMx14
import Derived.Deep.RegionHeld3
namespace Go.Proofs.Ythbnffnoldmcnaa
open Go.RowKit

set_option maxRecDepth 100000 in
set_option maxHeartbeats 4000000 in
theorem rmul_R (R C D : Nat) (xs ys : List Nat) (ao bo : Option Addr) (cap cap2 : Nat) (w : World) (hr : GRow w ao xs) (hs : GRow w bo ys) (hF : FW xs) (hG : FW ys) (hl : xs.length = R * C) (hm : ys.length = C * D) (hR : R ≤ 48) (hC : C ≤ 48) (hD : D ≤ 48) :
    Calls Try.prog 36 #[mxV R C ao xs.length cap, mxV C D bo ys.length cap2] w fun e w' => GaveA w ⟨R, D, tabM R D (fun i j => muO C D xs ys i j C), 0⟩ e w' := by
  have c1 := fun w => rright_any R C ao xs.length cap w
  have c2' := fun w => rright_any C D bo ys.length cap2 w
  rw [hl, rightM_yes hR hC, ← hl] at c1
  rw [hm, rightM_yes hC hD, ← hm] at c2'
  obtain ⟨N, hN⟩ : ∃ N, R * D = N := ⟨_, rfl⟩
  have cmk := fun W => rmake_R R D N hR hD hN W
  have hNb : N ≤ 2304 := by rw [← hN]; exact mul48 hR hD
  have HX : Hid (xs.length = R * C) := hl
  have HY : Hid (ys.length = C * D) := hm
  have HN : Hid (R * D = N) := hN
  clear hl hm hN
  obtain ⟨n, hn⟩ : ∃ n, xs.length = n := ⟨_, rfl⟩
  obtain ⟨m, hm⟩ : ∃ m, ys.length = m := ⟨_, rfl⟩
  have HXn : Hid (xs.length = n) := hn
  have HYm : Hid (ys.length = m) := hm
  rw [hn] at c1 ⊢
  rw [hm] at c2' ⊢
  clear hn hm
  have b9 : ((C : Int) != (C : Int)) = false := by simp
  have hst := vstoref Try.prog
  go_enter Try.func36, Try.ntmps36
  go_upto_region 4 with (first
    | (go_at_call_of 24 (Value.agg #[Value.int IntKind.i64 (R : Int), Value.int IntKind.i64 (C : Int), Value.slice ao n cap]); refine (c1 _).mono ?_; rintro e w1 ⟨rfl, b1⟩; have bb := old_three b1; have MA := (((B3.new _ _ _ _ _).alloc _).alloc _).below b1; have MB := ((B3.newAt (n := w.heap.size + 1) (by go_simp) _ _ _ _).alloc _).below b1; have RB := (B3.newAt (n := w.heap.size + 1 + 1) (by go_simp) _ _ _ _).below b1; have a0 := MA.1; have a1 := MA.2.1; have a2 := MA.2.2.1; have d0 := MB.1; have d1 := MB.2.1; have d2 := MB.2.2.1; obtain ⟨t0, t1, t2, s0, s1, s2, hlt⟩ := id RB)
    | (go_at_call_of 24 (Value.agg #[Value.int IntKind.i64 (C : Int), Value.int IntKind.i64 (D : Int), Value.slice bo m cap2]); refine (c2' _).mono ?_; rintro e w2 ⟨rfl, b2⟩; have ca := bb.trans (b2.mono bb.size); replace MA := MA.below b2; replace MB := MB.below b2; replace RB := RB.below b2; have a0 := MA.1; have a1 := MA.2.1; have a2 := MA.2.2.1; have d0 := MB.1; have d1 := MB.2.1; have d2 := MB.2.2.1; obtain ⟨t0, t1, t2, s0, s1, s2, hlt⟩ := id RB)
    | (go_at_call 22; refine (cmk _).mono ?_; rintro e w3 ⟨g, rfl, hrow, hg1, hg2, b3⟩))
  have hb3 := ca.trans (b3.mono ca.size)
  have OS : OutS w (w3.alloc (.cells #[.int .i64 R, .int .i64 D, .slice (some ⟨g, 0, none⟩) N N] 24)) (w.heap.size + 1 + 1) w3.heap.size g R D N (fun _ => 0) :=
    ⟨(RB.below b3).alloc _, B3.new _ _ _ _ _, hrow.below (below_one _ _) hg2, ⟨by omega, by omega, hg2, by simp; omega⟩, hb3.alloc hb3.size _⟩
  replace MA := (MA.below b3).alloc (.cells #[.int .i64 R, .int .i64 D, .slice (some ⟨g, 0, none⟩) N N] 24)
  replace MB := (MB.below b3).alloc (.cells #[.int .i64 R, .int .i64 D, .slice (some ⟨g, 0, none⟩) N N] 24)
  have hAg : w.heap.size ≠ g ∧ w.heap.size + 1 ≠ g := by omega
  clear a0 a1 a2 d0 d1 d2 t0 t1 t2 s0 s1 s2 hlt bb ca b1 b2 b3 hrow hg1 hg2 RB hb3 c1 c2' cmk
  generalize w3.alloc (.cells #[.int .i64 R, .int .i64 D, .slice (some ⟨g, 0, none⟩) N N] 24) = wS at *
  generalize w3.heap.size = M at *
  go_wp2
  go_loopg [8] R (fun gg s wr => ∃ (i : Nat) (f : Nat → Nat), i ≤ R ∧ gg = R - i ∧ s = .int .i64 i ∧ Hid (∀ p, p < i * D → NR (muO C D xs ys (p / D) (p % D) C) (f p)) ∧ OutS w wr (w.heap.size + 1 + 1) M g R D N f ∧ B3 wr w.heap.size (.int .i64 R) (.int .i64 C) (.slice ao n cap) ∧ B3 wr (w.heap.size + 1) (.int .i64 C) (.int .i64 D) (.slice bo m cap2))
  case atStart => exact ⟨0, fun _ => 0, Nat.zero_le _, rfl, rfl, fun p hp => by omega, OS, MA, MB⟩
  case round =>
    clear OS MA MB
    obtain ⟨i, f, hi, hgg, rfl, hv, OS, MA, MB⟩ := hrel
    have HG : Hid (gk = R - i) := hgg
    clear hgg
    have a0 := MA.1
    by_cases hlt : i < R
    · have j1 : (i : Int) < (R : Int) := by omega
      go_wp2
      go_loopg [9] D (fun gg s wr => ∃ (j : Nat) (f : Nat → Nat), j ≤ D ∧ gg = D - j ∧ s = .int .i64 j ∧ Hid (∀ p, p < i * D + j → NR (muO C D xs ys (p / D) (p % D) C) (f p)) ∧ OutS w wr (w.heap.size + 1 + 1) M g R D N f ∧ B3 wr w.heap.size (.int .i64 R) (.int .i64 C) (.slice ao n cap) ∧ B3 wr (w.heap.size + 1) (.int .i64 C) (.int .i64 D) (.slice bo m cap2))
      case atStart => exact ⟨0, f, Nat.zero_le _, rfl, rfl, fun p hp => hv.out p (by omega), OS, MA, MB⟩
      case round =>
        clear OS MA MB hv f a0
        obtain ⟨j, f, hj, hgg, rfl, hv, OS, MA, MB⟩ := hrel
        have HG2 : Hid (gk = D - j) := hgg
        clear hgg
        have d1 := MB.2.1
        by_cases hlt2 : j < D
        · have j2 : (j : Int) < (D : Int) := by omega
          generalize wr = wv at *
          go_wp2
          go_loopg [10, 11] C (fun gg s q wr => ∃ (k r : Nat), k ≤ C ∧ gg = C - k ∧ s = .float .f64 r ∧ q = .int .i64 k ∧ Hid (NR (muO C D xs ys i j k) r) ∧ Below wv.heap.size wv wr)
          case atStart => exact ⟨0, 0, Nat.zero_le _, rfl, rfl, rfl, ⟨by omega, rfl⟩, Below.refl _ _⟩
          case round =>
            obtain ⟨k, r, hk, hgg, rfl, rfl, hsum, hbv⟩ := hrel
            have HG3 : Hid (gk = C - k) := hgg
            clear hgg d1
            obtain ⟨a0, a1, a2, _⟩ := id (MA.below hbv)
            obtain ⟨d0, d1, d2, _⟩ := id (MB.below hbv)
            by_cases hlt3 : k < C
            · have j3 : (k : Int) < (C : Int) := by omega
              have hp : i * C + k < xs.length := by rw [HX.out]; exact at_lt hlt hlt3
              have hq : k * D + j < ys.length := by rw [HY.out]; exact at_lt hlt3 hlt2
              have bwv := OS.below.trans (hbv.mono OS.below.size)
              have ce := fun W h => rat_any xs R C i k (i * C + k) n cap ao W h (by omega) hC (by omega) rfl hp HXn.out
              have cf := fun W h => rat_any ys C D k j (k * D + j) m cap2 bo W h (by omega) hD (by omega) rfl hq HYm.out
              have HSU : Hid (∀ W W', NR (muO C D xs ys i j (k + 1)) (opR .add r (opR .mul (xs.getD (i * C + k) 0) (ys.getD (k * D + j) 0) W) W')) := fun W W' => by
                rw [muO]
                exact opO_NR (Or.inl rfl) hsum.out (opO_NR opMu (toO_NR (hF.at hp)) (toO_NR (hG.at hq)) W) W'
              generalize xs.getD (i * C + k) 0 = x at *
              generalize ys.getD (k * D + j) 0 = y at *
              clear hp hq hsum
              have h1 := fun x y w => run_op4 (P := Try.prog) (op := .mul) opMu 31 x y w
              have h2 := fun x y w => run_op4 (P := Try.prog) (op := .add) (Or.inl rfl) 31 x y w
              have hcv := conv64
              have ha := (MA.below hbv).drew
              have hb := (MB.below hbv).drew
              have hr' : GRow wr.drew ao xs := hr.below bwv.drew
              have hs' : GRow wr.drew bo ys := hs.below bwv.drew
              have HB := hbv.drew
              have HA : ∀ w1, Below wr.drew.heap.size wr.drew w1 → w1.cell? ⟨w.heap.size, 0, none⟩ = some (.int .i64 R) ∧ w1.cell? ⟨w.heap.size, 1, none⟩ = some (.int .i64 C) ∧ w1.cell? ⟨w.heap.size, 2, none⟩ = some (.slice ao n cap) := fun w1 h => by obtain ⟨x0, x1, x2, _⟩ := ha.below h; exact ⟨x0, x1, x2⟩
              have HBc : ∀ w1, Below wr.drew.heap.size wr.drew w1 → w1.cell? ⟨w.heap.size + 1, 0, none⟩ = some (.int .i64 C) ∧ w1.cell? ⟨w.heap.size + 1, 1, none⟩ = some (.int .i64 D) ∧ w1.cell? ⟨w.heap.size + 1, 2, none⟩ = some (.slice bo m cap2) := fun w1 h => by obtain ⟨x0, x1, x2, _⟩ := hb.below h; exact ⟨x0, x1, x2⟩
              have hop : ∀ W a, (opW .mul x y W).cell? a = W.cell? a := fun W a => by unfold World.cell?; rw [opW_heap]
              clear ha hb bwv
              go_wp2
              first | (go_region_held (fun w' => w'.cell? ⟨w.heap.size, 0, none⟩ = some (.int .i64 R) ∧ w'.cell? ⟨w.heap.size, 1, none⟩ = some (.int .i64 C) ∧ w'.cell? ⟨w.heap.size, 2, none⟩ = some (.slice ao n cap) ∧ w'.cell? ⟨w.heap.size + 1, 0, none⟩ = some (.int .i64 C) ∧ w'.cell? ⟨w.heap.size + 1, 1, none⟩ = some (.int .i64 D) ∧ w'.cell? ⟨w.heap.size + 1, 2, none⟩ = some (.slice bo m cap2)) (go_keep)
               (first
                | (go_at_call_of 63 (Value.agg #[Value.int IntKind.i64 (R : Int), Value.int IntKind.i64 (C : Int), Value.slice ao n cap]); refine (ce _ hr').mono ?_; rintro e w1 ⟨rfl, hb1⟩; have hA1 := HA _ hb1; have hBc1 := HBc _ hb1; have hs1 := hs'.below hb1; have HB1 := HB.trans (hb1.mono HB.size))
                | (go_at_call_of 63 (Value.agg #[Value.int IntKind.i64 (C : Int), Value.int IntKind.i64 (D : Int), Value.slice bo m cap2]); refine (cf _ hs1).mono ?_; rintro e w2 ⟨rfl, hb2⟩; have HB2 := HB1.trans (hb2.mono HB1.size); have hb3 := hb1.trans (hb2.mono hb1.size); have hA2 := HA _ hb3; have hBc2 := HBc _ hb3))) | fail
              all_goals
                go_wp2
                go_roundg (C - (k + 1))
                case measure => rw [HG3.out]; omega
                case rel => exact ⟨k + 1, _, by omega, rfl, rfl, by go_num, HSU.out _ _, opW_below .add r _ (opW_below .mul x y HB2)⟩
            · have ek : k = C := by omega
              subst ek
              have j3 : ¬ (k : Int) < (k : Int) := by omega
              have OS2 := OS.later hbv
              obtain ⟨m0, m1, m2, _⟩ := id OS2.mbox
              have hqN : i * D + j < N := by rw [← HN.out]; exact at_lt hlt hlt2
              obtain ⟨e, he⟩ : ∃ e, i * D = e := ⟨_, rfl⟩
              have eI : (i : Int) * (D : Int) = (e : Int) := by rw [mulI, he]
              have hm4 := mul48 (show i ≤ 48 by omega) hD
              have HNX : Hid (∀ p, p < i * D + (j + 1) → NR (muO k D xs ys (p / D) (p % D) k) (if p = e + j then r else f p)) := (by
                have h := NR_next (o := fun i j => muO k D xs ys i j k) hlt2 hv.out hsum.out
                rw [he] at h ⊢
                exact h)
              have g2 := World.rowIs.cell OS2.row hqN
              have g3 := World.rowIs.frozen OS2.row (i * D + j)
              rw [he] at hqN g2 g3 hm4
              have hqI : (e : Int) + (j : Int) < (N : Int) := by omega
              have n1 : ((e : Int) + (j : Int)).toNat = e + j := by omega
              have OS3 := OS2.set (e + j) r
              have MA3 := (MA.below hbv).far (c := g) (o := e + j) (fun h => hAg.1 h.symm) (.float .f64 r)
              have MB3 := (MB.below hbv).far (c := g) (o := e + j) (fun h => hAg.2 h.symm) (.float .f64 r)
              clear he hsum hv
              go_wp2
              go_roundg (D - (j + 1))
              case measure => rw [HG2.out]; omega
              case rel => exact ⟨j + 1, _, by omega, rfl, by go_num, HNX, OS3, MA3, MB3⟩
        · have ej : j = D := by omega
          subst ej
          have j2 : ¬ (j : Int) < (j : Int) := by omega
          have HNE : Hid (∀ p, p < (i + 1) * j → NR (muO C j xs ys (p / j) (p % j) C) (f p)) := fun p hp => hv.out p (by rw [Nat.succ_mul] at hp; exact hp)
          clear hv
          go_wp2
          go_roundg (R - (i + 1))
          case measure => rw [HG.out]; omega
          case rel => exact ⟨i + 1, f, by omega, rfl, by go_num, HNE, OS, MA, MB⟩
    · have ei : i = R := by omega
      subst ei
      have j1 : ¬ (i : Int) < (i : Int) := by omega
      obtain ⟨m0, m1, m2, _⟩ := id OS.mbox
      obtain ⟨t0, t1, t2, s0, s1, s2, _⟩ := id OS.res
      have hfin := OS.gave (o := fun i j => muO C D xs ys i j C) HN.out (fun p hp => hv.out p (by rw [HN.out]; exact hp))
      clear hv
      go_wp2
      exact bodyPost_ret (v := .tuple #[mxV i D (some ⟨g, 0, none⟩) N N, .int .i64 0]) (by simp [results, Try.results36, go_sem, t0, t1, t2]) rfl ⟨_, rfl, hfin _ _ _⟩
end Go.Proofs.Ythbnffnoldmcnaa
