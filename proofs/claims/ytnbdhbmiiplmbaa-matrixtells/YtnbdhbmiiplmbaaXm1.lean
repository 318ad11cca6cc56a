/- What Mul and Apply of the document answer, right or not. -/
import Derived.Test.YtnbdhbmiiplmbaaMx7
import Derived.Deep.RegionHeld3
import Derived.Test.YtnbdhbmiiplmbaaXm3
namespace Go.Proofs.Ytnbdhbmiiplmbaa
open Go.RowKit

set_option maxHeartbeats 400000 in
theorem rmay_any (n : Int) (w : World) : Calls Try.prog 59 #[.int .i64 n] w fun e w' => e = .returned (.bool (okN n)) ∧ w' = w := by
  unfold okN
  by_cases h1 : 0 ≤ n
  · rw [decide_eq_true h1]
    by_cases h2 : n ≤ 48
    · rw [decide_eq_true h2]
      go_enter Try.func59, Try.ntmps59
      go_wp2
      go_ret
      exact ⟨rfl, rfl⟩
    · rw [decide_eq_false h2]
      go_enter Try.func59, Try.ntmps59
      go_wp2
      go_ret
      exact ⟨rfl, rfl⟩
  · rw [decide_eq_false h1]
    go_enter Try.func59, Try.ntmps59
    go_wp2
    go_ret
    exact ⟨rfl, rfl⟩
set_option maxHeartbeats 1000000 in
theorem rright_any (r c : Int) (ao : Option Addr) (n cap : Nat) (w : World) :
    Calls Try.prog 24 #[mxV r c ao n cap] w fun e w' => e = .returned (.bool (rightM r c n)) ∧ Below w.heap.size w w' := by
  have hb : ∀ o, Below w.heap.size w (w.alloc o) := fun o => below_one w o
  have co := rmay_any
  cases q1 : okN r
  · have HE : Hid (rightM r c n = false) := (show rightM r c n = false by unfold rightM; rw [q1]; rfl)
    have c1 := fun w => co r w
    rw [q1] at c1
    clear q1 co
    go_enter Try.func24, Try.ntmps24
    go_wp2_with (go_at_call 59; refine (c1 _).mono ?_; rintro e w' ⟨rfl, h'⟩; subst w')
    go_ret
    exact ⟨end_bool HE.out.symm, hb _⟩
  · cases q2 : okN c
    · have HE : Hid (rightM r c n = false) := (show rightM r c n = false by unfold rightM; rw [q1, q2]; rfl)
      have c1 := fun w => co r w
      have c2 := fun w => co c w
      rw [q1] at c1
      rw [q2] at c2
      clear q1 q2 co
      go_enter Try.func24, Try.ntmps24
      go_wp2_with (first | (go_at_call_of 59 (Value.int IntKind.i64 r); refine (c1 _).mono ?_; rintro e w' ⟨rfl, h'⟩; subst w') | (go_at_call_of 59 (Value.int IntKind.i64 c); refine (c2 _).mono ?_; rintro e w' ⟨rfl, h'⟩; subst w'))
      go_ret
      exact ⟨end_bool HE.out.symm, hb _⟩
    · have c1 := fun w => co r w
      have c2 := fun w => co c w
      rw [q1] at c1
      rw [q2] at c2
      obtain ⟨R, rfl, hR⟩ := okN_nat q1
      obtain ⟨C, rfl, hC⟩ := okN_nat q2
      obtain ⟨p, hp⟩ : ∃ p, R * C = p := ⟨_, rfl⟩
      have hpb : p ≤ 2304 := by rw [← hp]; exact mul48 hR hC
      have eM : (R : Int) * (C : Int) = (p : Int) := by rw [mulI, hp]
      have e1 : rightM R C n = decide (n = p) := by
        unfold rightM
        rw [q1, q2, eM]
        by_cases h : n = p
        · subst h; simp
        · rw [decide_eq_false h, decide_eq_false (by omega)]; rfl
      rw [e1]
      clear e1 q1 q2 co hp hR hC
      by_cases h : n = p
      · rw [decide_eq_true h]
        have b1 : ((n : Int) == (p : Int)) = true := by simp [h]
        clear h
        go_enter Try.func24, Try.ntmps24
        go_wp2_with (first | (go_at_call_of 59 (Value.int IntKind.i64 (R : Int)); refine (c1 _).mono ?_; rintro e w' ⟨rfl, h'⟩; subst w') | (go_at_call_of 59 (Value.int IntKind.i64 (C : Int)); refine (c2 _).mono ?_; rintro e w' ⟨rfl, h'⟩; subst w'))
        go_ret
        exact ⟨rfl, hb _⟩
      · rw [decide_eq_false h]
        have b1 : ((n : Int) == (p : Int)) = false := by simp; omega
        clear h
        go_enter Try.func24, Try.ntmps24
        go_wp2_with (first | (go_at_call_of 59 (Value.int IntKind.i64 (R : Int)); refine (c1 _).mono ?_; rintro e w' ⟨rfl, h'⟩; subst w') | (go_at_call_of 59 (Value.int IntKind.i64 (C : Int)); refine (c2 _).mono ?_; rintro e w' ⟨rfl, h'⟩; subst w'))
        go_ret
        exact ⟨rfl, hb _⟩
set_option maxHeartbeats 1000000 in
theorem rat_any (xs : List Nat) (R : Int) (C i j p n cap : Nat) (ao : Option Addr) (w : World) (hr : GRow w ao xs) (hi : i ≤ 48) (hC : C ≤ 48) (hj : j ≤ 48) (hp : i * C + j = p) (hl : p < xs.length) (hn : xs.length = n) :
    Calls Try.prog 63 #[mxV R C ao n cap, .int .i64 i, .int .i64 j] w fun e w' => e = .returned (.float .f64 (xs.getD p 0)) ∧ Below w.heap.size w w' := by
  rcases hr with h | ⟨b, off, rfl, hc⟩
  · omega
  have g := hc p hl
  rw [hn] at hl
  have hm := mul48 hi hC
  obtain ⟨q, hq⟩ : ∃ q, i * C = q := ⟨_, rfl⟩
  have e1 : (i : Int) * (C : Int) = (q : Int) := by rw [mulI, hq]
  rw [hq] at hm hp
  clear hq
  subst hp
  generalize xs.getD (q + j) 0 = x at *
  have hlI : (q : Int) + (j : Int) < (n : Int) := by omega
  have n1 : ((q : Int) + (j : Int)).toNat = q + j := by omega
  have hold : ∀ o, Below w.heap.size w (w.alloc o) := fun o => below_one w o
  have k3 : ∀ o, (w.alloc o).cell? ⟨b, off + (q + j), none⟩ = some (.float .f64 x) := fun o => by rw [(hold o).cell (World.block_lt_of_cell? w _ g)]; exact g
  clear hc
  go_enter Try.func63, Try.ntmps63
  go_wp2
  go_ret
  exact ⟨rfl, hold _⟩
set_option maxHeartbeats 1000000 in
theorem rmake_R (R C N : Nat) (hR : R ≤ 48) (hC : C ≤ 48) (hN : R * C = N) (w : World) :
    Calls Try.prog 22 #[.int .i64 R, .int .i64 C] w fun e w' => ∃ g, e = .returned (.tuple #[mxV R C (some ⟨g, 0, none⟩) N N, .int .i64 0]) ∧ RRow w' g N (fun _ => 0) ∧ w.heap.size ≤ g ∧ g < w'.heap.size ∧ Below w.heap.size w w' := by
  have c1 := fun w => rmay_any R w
  have c2 := fun w => rmay_any C w
  rw [okN_iff.2 ⟨by omega, by omega⟩] at c1
  rw [okN_iff.2 ⟨by omega, by omega⟩] at c2
  have hNb : N ≤ 2304 := by rw [← hN]; exact mul48 hR hC
  have eM : (R : Int) * (C : Int) = (N : Int) := by rw [mulI, hN]
  have hmk := run_make_row' (P := Try.prog) 22 31 (.float .f64 0) 8 Try.underlying22 Try.infoF rfl .i64 .i64 N (by omega) (by omega)
  clear hN
  go_enter Try.func22, Try.ntmps22
  go_wp2_with (first | (go_at_call_of 59 (Value.int IntKind.i64 (R : Int)); refine (c1 _).mono ?_; rintro e w' ⟨rfl, h'⟩; subst w') | (go_at_call_of 59 (Value.int IntKind.i64 (C : Int)); refine (c2 _).mono ?_; rintro e w' ⟨rfl, h'⟩; subst w'))
  have hrow : ∀ o, RRow ((w.alloc o).alloc (.cells (madeCells #[.float .f64 0] N) 31)) (w.heap.size + 1) N (fun _ => 0) := fun o => by
    have h := RRow.made (w.alloc o) N
    rw [show (w.alloc o).heap.size = w.heap.size + 1 by go_simp] at h
    exact h
  exact bodyPost_ret (v := .tuple #[mxV R C (some ⟨w.heap.size + 1, 0, none⟩) N N, .int .i64 0]) (by simp [results, Try.results22, go_sem]) rfl ⟨w.heap.size + 1, rfl, hrow _, by omega, by go_simp, old_two (Below.refl _ _)⟩
/-- What stands in memory while the document fills a matrix: the answer's box, the matrix's box, its row. -/
structure OutS (w wr : World) (S M g R C N : Nat) (f : Nat → Nat) : Prop where
  res : B3 wr S (.int .i64 0) (.int .i64 0) (.slice none 0 0)
  mbox : B3 wr M (.int .i64 R) (.int .i64 C) (.slice (some ⟨g, 0, none⟩) N N)
  row : RRow wr g N f
  lo : w.heap.size ≤ S ∧ S < g ∧ g < M ∧ g < wr.heap.size
  below : Below w.heap.size w wr
theorem OutS.drew {w wr : World} {S M g R C N : Nat} {f : Nat → Nat} (h : OutS w wr S M g R C N f) : OutS w wr.drew S M g R C N f := ⟨h.res.drew, h.mbox.drew, h.row, h.lo, h.below.drew⟩
theorem OutS.later {w wr w1 : World} {S M g R C N : Nat} {f : Nat → Nat} (h : OutS w wr S M g R C N f) (hb : Below wr.heap.size wr w1) : OutS w w1 S M g R C N f :=
  ⟨h.res.below hb, h.mbox.below hb, h.row.below hb h.lo.2.2.2, ⟨h.lo.1, h.lo.2.1, h.lo.2.2.1, Nat.lt_of_lt_of_le h.lo.2.2.2 hb.size⟩, h.below.trans (hb.mono h.below.size)⟩
theorem OutS.set {w wr : World} {S M g R C N : Nat} {f : Nat → Nat} (h : OutS w wr S M g R C N f) (q r : Nat) : OutS w (wr.setCell ⟨g, q, none⟩ (.float .f64 r)) S M g R C N (fun p => if p = q then r else f p) := by
  have := h.lo
  exact ⟨h.res.far (by omega) _, h.mbox.far (by omega) _, h.row.set q r, ⟨this.1, this.2.1, this.2.2.1, by simp [World.setCell]; exact this.2.2.2⟩, h.below.setCell (by show w.heap.size ≤ g; omega) _⟩
theorem OutS.fin {w wr : World} {S M g R C N : Nat} {f : Nat → Nat} (h : OutS w wr S M g R C N f) {x y z : Value} : RRow (((wr.setCell ⟨S, 0, none⟩ x).setCell ⟨S, 1, none⟩ y).setCell ⟨S, 2, none⟩ z) g N f ∧ Below w.heap.size w (((wr.setCell ⟨S, 0, none⟩ x).setCell ⟨S, 1, none⟩ y).setCell ⟨S, 2, none⟩ z) := by
  have := h.lo
  refine ⟨?_, set_three h.below (by omega) _ _ _⟩
  have n1 : g ≠ S := by omega
  exact World.rowIs.setOther (World.rowIs.setOther (World.rowIs.setOther h.row (by exact n1) _) (by exact n1) _) (by exact n1) _
/-- The answer, once all is filled. -/
theorem OutS.gave {w wr : World} {S M g R C N : Nat} {f : Nat → Nat} {o : Nat → Nat → Option Nat} (h : OutS w wr S M g R C N f) (hN : R * C = N) (hv : ∀ p, p < N → NR (o (p / C) (p % C)) (f p)) (x y z : Value) : GaveF w (tabM R C o) (.slice (some ⟨g, 0, none⟩) N N) (((wr.setCell ⟨S, 0, none⟩ x).setCell ⟨S, 1, none⟩ y).setCell ⟨S, 2, none⟩ z) := by
  have := h.lo
  unfold tabM
  rw [hN]
  exact ⟨some ⟨g, 0, none⟩, N, toL' N f, by rw [toL'_len], LN_tab (toL'_len _ _) (fun i hi => by rw [toL'_at hi]; exact hv i hi), (h.fin).1.grow (toL'_len _ _) (fun j hj => toL'_at hj), by rw [toL'_len]; exact Nat.le_refl _, fun a e => by cases e; show w.heap.size ≤ g; omega, (h.fin).2⟩
end Go.Proofs.Ytnbdhbmiiplmbaa

namespace Go.Proofs.Ytnbdhbmiiplmbaa
open Go.RowKit

set_option maxRecDepth 100000 in
set_option maxHeartbeats 4000000 in
theorem rmul_R (R C D : Nat) (xs ys : List Nat) (ao bo : Option Addr) (cap cap2 : Nat) (w : World) (hr : GRow w ao xs) (hs : GRow w bo ys) (hF : FW xs) (hG : FW ys) (hl : xs.length = R * C) (hm : ys.length = C * D) (hR : R ≤ 48) (hC : C ≤ 48) (hD : D ≤ 48) :
    Calls Try.prog 36 #[mxV R C ao xs.length cap, mxV C D bo ys.length cap2] w fun e w' => GaveA w ⟨R, D, tabM R D (fun i j => muO C D xs ys i j C), 0⟩ e w' := by
  have c1 := fun w => rright_any R C ao xs.length cap w
  have c2' := fun w => rright_any C D bo ys.length cap2 w
  rw [hl, rightM_yes hR hC, ← hl] at c1
  rw [hm, rightM_yes hC hD, ← hm] at c2'
  obtain ⟨N, hN⟩ : ∃ N, R * D = N := ⟨_, rfl⟩
  have cmk := fun W => rmake_R R D N hR hD hN W
  have hNb : N ≤ 2304 := by rw [← hN]; exact mul48 hR hD
  have HX : Hid (xs.length = R * C) := hl
  have HY : Hid (ys.length = C * D) := hm
  have HN : Hid (R * D = N) := hN
  clear hl hm hN
  obtain ⟨n, hn⟩ : ∃ n, xs.length = n := ⟨_, rfl⟩
  obtain ⟨m, hm⟩ : ∃ m, ys.length = m := ⟨_, rfl⟩
  have HXn : Hid (xs.length = n) := hn
  have HYm : Hid (ys.length = m) := hm
  rw [hn] at c1 ⊢
  rw [hm] at c2' ⊢
  clear hn hm
  have b9 : ((C : Int) != (C : Int)) = false := by simp
  have hst := vstoref Try.prog
  go_enter Try.func36, Try.ntmps36
  go_upto_region 4 with (first
    | (go_at_call_of 24 (Value.agg #[Value.int IntKind.i64 (R : Int), Value.int IntKind.i64 (C : Int), Value.slice ao n cap]); refine (c1 _).mono ?_; rintro e w1 ⟨rfl, b1⟩; have bb := old_three b1; have MA := (((B3.new _ _ _ _ _).alloc _).alloc _).below b1; have MB := ((B3.newAt (n := w.heap.size + 1) (by go_simp) _ _ _ _).alloc _).below b1; have RB := (B3.newAt (n := w.heap.size + 1 + 1) (by go_simp) _ _ _ _).below b1; have a0 := MA.1; have a1 := MA.2.1; have a2 := MA.2.2.1; have d0 := MB.1; have d1 := MB.2.1; have d2 := MB.2.2.1; obtain ⟨t0, t1, t2, s0, s1, s2, hlt⟩ := id RB)
    | (go_at_call_of 24 (Value.agg #[Value.int IntKind.i64 (C : Int), Value.int IntKind.i64 (D : Int), Value.slice bo m cap2]); refine (c2' _).mono ?_; rintro e w2 ⟨rfl, b2⟩; have ca := bb.trans (b2.mono bb.size); replace MA := MA.below b2; replace MB := MB.below b2; replace RB := RB.below b2; have a0 := MA.1; have a1 := MA.2.1; have a2 := MA.2.2.1; have d0 := MB.1; have d1 := MB.2.1; have d2 := MB.2.2.1; obtain ⟨t0, t1, t2, s0, s1, s2, hlt⟩ := id RB)
    | (go_at_call 22; refine (cmk _).mono ?_; rintro e w3 ⟨g, rfl, hrow, hg1, hg2, b3⟩))
  have hb3 := ca.trans (b3.mono ca.size)
  have OS : OutS w (w3.alloc (.cells #[.int .i64 R, .int .i64 D, .slice (some ⟨g, 0, none⟩) N N] 24)) (w.heap.size + 1 + 1) w3.heap.size g R D N (fun _ => 0) :=
    ⟨(RB.below b3).alloc _, B3.new _ _ _ _ _, hrow.below (below_one _ _) hg2, ⟨by omega, by omega, hg2, by simp; omega⟩, hb3.alloc hb3.size _⟩
  replace MA := (MA.below b3).alloc (.cells #[.int .i64 R, .int .i64 D, .slice (some ⟨g, 0, none⟩) N N] 24)
  replace MB := (MB.below b3).alloc (.cells #[.int .i64 R, .int .i64 D, .slice (some ⟨g, 0, none⟩) N N] 24)
  have hAg : w.heap.size ≠ g ∧ w.heap.size + 1 ≠ g := by omega
  clear a0 a1 a2 d0 d1 d2 t0 t1 t2 s0 s1 s2 hlt bb ca b1 b2 b3 hrow hg1 hg2 RB hb3 c1 c2' cmk
  generalize w3.alloc (.cells #[.int .i64 R, .int .i64 D, .slice (some ⟨g, 0, none⟩) N N] 24) = wS at *
  generalize w3.heap.size = M at *
  go_wp2
  go_loopg [8] R (fun gg s wr => ∃ (i : Nat) (f : Nat → Nat), i ≤ R ∧ gg = R - i ∧ s = .int .i64 i ∧ Hid (∀ p, p < i * D → NR (muO C D xs ys (p / D) (p % D) C) (f p)) ∧ OutS w wr (w.heap.size + 1 + 1) M g R D N f ∧ B3 wr w.heap.size (.int .i64 R) (.int .i64 C) (.slice ao n cap) ∧ B3 wr (w.heap.size + 1) (.int .i64 C) (.int .i64 D) (.slice bo m cap2))
  case atStart => exact ⟨0, fun _ => 0, Nat.zero_le _, rfl, rfl, fun p hp => by omega, OS, MA, MB⟩
  case round =>
    clear OS MA MB
    obtain ⟨i, f, hi, hgg, rfl, hv, OS, MA, MB⟩ := hrel
    have HG : Hid (gk = R - i) := hgg
    clear hgg
    have a0 := MA.1
    by_cases hlt : i < R
    · have j1 : (i : Int) < (R : Int) := by omega
      go_wp2
      go_loopg [9] D (fun gg s wr => ∃ (j : Nat) (f : Nat → Nat), j ≤ D ∧ gg = D - j ∧ s = .int .i64 j ∧ Hid (∀ p, p < i * D + j → NR (muO C D xs ys (p / D) (p % D) C) (f p)) ∧ OutS w wr (w.heap.size + 1 + 1) M g R D N f ∧ B3 wr w.heap.size (.int .i64 R) (.int .i64 C) (.slice ao n cap) ∧ B3 wr (w.heap.size + 1) (.int .i64 C) (.int .i64 D) (.slice bo m cap2))
      case atStart => exact ⟨0, f, Nat.zero_le _, rfl, rfl, fun p hp => hv.out p (by omega), OS, MA, MB⟩
      case round =>
        clear OS MA MB hv f a0
        obtain ⟨j, f, hj, hgg, rfl, hv, OS, MA, MB⟩ := hrel
        have HG2 : Hid (gk = D - j) := hgg
        clear hgg
        have d1 := MB.2.1
        by_cases hlt2 : j < D
        · have j2 : (j : Int) < (D : Int) := by omega
          generalize wr = wv at *
          go_wp2
          go_loopg [10, 11] C (fun gg s q wr => ∃ (k r : Nat), k ≤ C ∧ gg = C - k ∧ s = .float .f64 r ∧ q = .int .i64 k ∧ Hid (NR (muO C D xs ys i j k) r) ∧ Below wv.heap.size wv wr)
          case atStart => exact ⟨0, 0, Nat.zero_le _, rfl, rfl, rfl, ⟨by omega, rfl⟩, Below.refl _ _⟩
          case round =>
            obtain ⟨k, r, hk, hgg, rfl, rfl, hsum, hbv⟩ := hrel
            have HG3 : Hid (gk = C - k) := hgg
            clear hgg d1
            obtain ⟨a0, a1, a2, _⟩ := id (MA.below hbv)
            obtain ⟨d0, d1, d2, _⟩ := id (MB.below hbv)
            by_cases hlt3 : k < C
            · have j3 : (k : Int) < (C : Int) := by omega
              have hp : i * C + k < xs.length := by rw [HX.out]; exact at_lt hlt hlt3
              have hq : k * D + j < ys.length := by rw [HY.out]; exact at_lt hlt3 hlt2
              have bwv := OS.below.trans (hbv.mono OS.below.size)
              have ce := fun W h => rat_any xs R C i k (i * C + k) n cap ao W h (by omega) hC (by omega) rfl hp HXn.out
              have cf := fun W h => rat_any ys C D k j (k * D + j) m cap2 bo W h (by omega) hD (by omega) rfl hq HYm.out
              have HSU : Hid (∀ W W', NR (muO C D xs ys i j (k + 1)) (opR .add r (opR .mul (xs.getD (i * C + k) 0) (ys.getD (k * D + j) 0) W) W')) := fun W W' => by
                rw [muO]
                exact opO_NR (Or.inl rfl) hsum.out (opO_NR opMu (toO_NR (hF.at hp)) (toO_NR (hG.at hq)) W) W'
              generalize xs.getD (i * C + k) 0 = x at *
              generalize ys.getD (k * D + j) 0 = y at *
              clear hp hq hsum
              have h1 := fun x y w => run_op4 (P := Try.prog) (op := .mul) opMu 31 x y w
              have h2 := fun x y w => run_op4 (P := Try.prog) (op := .add) (Or.inl rfl) 31 x y w
              have hcv := conv64
              have ha := (MA.below hbv).drew
              have hb := (MB.below hbv).drew
              have hr' : GRow wr.drew ao xs := hr.below bwv.drew
              have hs' : GRow wr.drew bo ys := hs.below bwv.drew
              have HB := hbv.drew
              have HA : ∀ w1, Below wr.drew.heap.size wr.drew w1 → w1.cell? ⟨w.heap.size, 0, none⟩ = some (.int .i64 R) ∧ w1.cell? ⟨w.heap.size, 1, none⟩ = some (.int .i64 C) ∧ w1.cell? ⟨w.heap.size, 2, none⟩ = some (.slice ao n cap) := fun w1 h => by obtain ⟨x0, x1, x2, _⟩ := ha.below h; exact ⟨x0, x1, x2⟩
              have HBc : ∀ w1, Below wr.drew.heap.size wr.drew w1 → w1.cell? ⟨w.heap.size + 1, 0, none⟩ = some (.int .i64 C) ∧ w1.cell? ⟨w.heap.size + 1, 1, none⟩ = some (.int .i64 D) ∧ w1.cell? ⟨w.heap.size + 1, 2, none⟩ = some (.slice bo m cap2) := fun w1 h => by obtain ⟨x0, x1, x2, _⟩ := hb.below h; exact ⟨x0, x1, x2⟩
              have hop : ∀ W a, (opW .mul x y W).cell? a = W.cell? a := fun W a => by unfold World.cell?; rw [opW_heap]
              clear ha hb bwv
              go_wp2
              first | (go_region_held (fun w' => w'.cell? ⟨w.heap.size, 0, none⟩ = some (.int .i64 R) ∧ w'.cell? ⟨w.heap.size, 1, none⟩ = some (.int .i64 C) ∧ w'.cell? ⟨w.heap.size, 2, none⟩ = some (.slice ao n cap) ∧ w'.cell? ⟨w.heap.size + 1, 0, none⟩ = some (.int .i64 C) ∧ w'.cell? ⟨w.heap.size + 1, 1, none⟩ = some (.int .i64 D) ∧ w'.cell? ⟨w.heap.size + 1, 2, none⟩ = some (.slice bo m cap2)) (go_keep)
               (first
                | (go_at_call_of 63 (Value.agg #[Value.int IntKind.i64 (R : Int), Value.int IntKind.i64 (C : Int), Value.slice ao n cap]); refine (ce _ hr').mono ?_; rintro e w1 ⟨rfl, hb1⟩; have hA1 := HA _ hb1; have hBc1 := HBc _ hb1; have hs1 := hs'.below hb1; have HB1 := HB.trans (hb1.mono HB.size))
                | (go_at_call_of 63 (Value.agg #[Value.int IntKind.i64 (C : Int), Value.int IntKind.i64 (D : Int), Value.slice bo m cap2]); refine (cf _ hs1).mono ?_; rintro e w2 ⟨rfl, hb2⟩; have HB2 := HB1.trans (hb2.mono HB1.size); have hb3 := hb1.trans (hb2.mono hb1.size); have hA2 := HA _ hb3; have hBc2 := HBc _ hb3))) | fail
              all_goals
                go_wp2
                go_roundg (C - (k + 1))
                case measure => rw [HG3.out]; omega
                case rel => exact ⟨k + 1, _, by omega, rfl, rfl, by go_num, HSU.out _ _, opW_below .add r _ (opW_below .mul x y HB2)⟩
            · have ek : k = C := by omega
              subst ek
              have j3 : ¬ (k : Int) < (k : Int) := by omega
              have OS2 := OS.later hbv
              obtain ⟨m0, m1, m2, _⟩ := id OS2.mbox
              have hqN : i * D + j < N := by rw [← HN.out]; exact at_lt hlt hlt2
              obtain ⟨e, he⟩ : ∃ e, i * D = e := ⟨_, rfl⟩
              have eI : (i : Int) * (D : Int) = (e : Int) := by rw [mulI, he]
              have hm4 := mul48 (show i ≤ 48 by omega) hD
              have HNX : Hid (∀ p, p < i * D + (j + 1) → NR (muO k D xs ys (p / D) (p % D) k) (if p = e + j then r else f p)) := (by
                have h := NR_next (o := fun i j => muO k D xs ys i j k) hlt2 hv.out hsum.out
                rw [he] at h ⊢
                exact h)
              have g2 := World.rowIs.cell OS2.row hqN
              have g3 := World.rowIs.frozen OS2.row (i * D + j)
              rw [he] at hqN g2 g3 hm4
              have hqI : (e : Int) + (j : Int) < (N : Int) := by omega
              have n1 : ((e : Int) + (j : Int)).toNat = e + j := by omega
              have OS3 := OS2.set (e + j) r
              have MA3 := (MA.below hbv).far (c := g) (o := e + j) (fun h => hAg.1 h.symm) (.float .f64 r)
              have MB3 := (MB.below hbv).far (c := g) (o := e + j) (fun h => hAg.2 h.symm) (.float .f64 r)
              clear he hsum hv
              go_wp2
              go_roundg (D - (j + 1))
              case measure => rw [HG2.out]; omega
              case rel => exact ⟨j + 1, _, by omega, rfl, by go_num, HNX, OS3, MA3, MB3⟩
        · have ej : j = D := by omega
          subst ej
          have j2 : ¬ (j : Int) < (j : Int) := by omega
          have HNE : Hid (∀ p, p < (i + 1) * j → NR (muO C j xs ys (p / j) (p % j) C) (f p)) := fun p hp => hv.out p (by rw [Nat.succ_mul] at hp; exact hp)
          clear hv
          go_wp2
          go_roundg (R - (i + 1))
          case measure => rw [HG.out]; omega
          case rel => exact ⟨i + 1, f, by omega, rfl, by go_num, HNE, OS, MA, MB⟩
    · have ei : i = R := by omega
      subst ei
      have j1 : ¬ (i : Int) < (i : Int) := by omega
      obtain ⟨m0, m1, m2, _⟩ := id OS.mbox
      obtain ⟨t0, t1, t2, s0, s1, s2, _⟩ := id OS.res
      have hfin := OS.gave (o := fun i j => muO C D xs ys i j C) HN.out (fun p hp => hv.out p (by rw [HN.out]; exact hp))
      clear hv
      go_wp2
      exact bodyPost_ret (v := .tuple #[mxV i D (some ⟨g, 0, none⟩) N N, .int .i64 0]) (by simp [results, Try.results36, go_sem, t0, t1, t2]) rfl ⟨_, rfl, hfin _ _ _⟩
end Go.Proofs.Ytnbdhbmiiplmbaa

namespace Go.Proofs.Ytnbdhbmiiplmbaa
open Go.RowKit

set_option maxHeartbeats 2000000 in
theorem rmul_any (r c : Int) (xs : List Nat) (r2 c2 : Int) (ys : List Nat) (ao bo : Option Addr) (cap cap2 : Nat) (w : World) (hr : GRow w ao xs) (hs : GRow w bo ys) (hF : FW xs) (hG : FW ys) :
    Calls Try.prog 36 #[mxV r c ao xs.length cap, mxV r2 c2 bo ys.length cap2] w fun e w' => GaveA w (mlA r c xs r2 c2 ys) e w' := by
  have c1 := fun w => rright_any r c ao xs.length cap w
  have c2' := fun w => rright_any r2 c2 bo ys.length cap2 w
  unfold mlA
  cases q1 : rightM r c xs.length
  · rw [q1] at c1
    rw [Bool.false_and, Bool.false_and, if_neg (by decide)]
    clear c2' hr hs hF hG q1
    generalize xs.length = n at *
    generalize ys.length = m at *
    go_enter Try.func36, Try.ntmps36
    go_wp2_with (go_at_call 24; refine (c1 _).mono ?_; rintro e w1 ⟨rfl, b1⟩; have bb := old_three b1; have MA := (((B3.new _ _ _ _ _).alloc _).alloc _).below b1; have MB := ((B3.newAt (n := w.heap.size + 1) (by go_simp) _ _ _ _).alloc _).below b1; have RB := (B3.newAt (n := w.heap.size + 1 + 1) (by go_simp) _ _ _ _).below b1; have a0 := MA.1; have a1 := MA.2.1; have a2 := MA.2.2.1; have d0 := MB.1; have d1 := MB.2.1; have d2 := MB.2.2.1; obtain ⟨t0, t1, t2, s0, s1, s2, hlt⟩ := id RB)
    exact bodyPost_ret (v := .tuple #[.agg #[.int .i64 0, .int .i64 0, .slice none 0 0], .int .i64 4]) (by simp [results, Try.results36, go_sem, t0, t1, t2]) rfl ⟨_, rfl, GaveF.none_put bb (by omega) _ _ _⟩
  cases q2 : rightM r2 c2 ys.length
  · rw [q1] at c1
    rw [q2] at c2'
    rw [Bool.true_and, Bool.false_and, if_neg (by decide)]
    clear hr hs hF hG q1 q2
    generalize xs.length = n at *
    generalize ys.length = m at *
    go_enter Try.func36, Try.ntmps36
    go_wp2_with (first | (go_at_call_of 24 (Value.agg #[Value.int IntKind.i64 r, Value.int IntKind.i64 c, Value.slice ao n cap]); refine (c1 _).mono ?_; rintro e w1 ⟨rfl, b1⟩; have bb := old_three b1; have MA := (((B3.new _ _ _ _ _).alloc _).alloc _).below b1; have MB := ((B3.newAt (n := w.heap.size + 1) (by go_simp) _ _ _ _).alloc _).below b1; have RB := (B3.newAt (n := w.heap.size + 1 + 1) (by go_simp) _ _ _ _).below b1; have a0 := MA.1; have a1 := MA.2.1; have a2 := MA.2.2.1; have d0 := MB.1; have d1 := MB.2.1; have d2 := MB.2.2.1; obtain ⟨t0, t1, t2, s0, s1, s2, hlt⟩ := id RB) | (go_at_call_of 24 (Value.agg #[Value.int IntKind.i64 r2, Value.int IntKind.i64 c2, Value.slice bo m cap2]); refine (c2' _).mono ?_; rintro e w2 ⟨rfl, b2⟩; have ca := bb.trans (b2.mono bb.size); replace MA := MA.below b2; replace MB := MB.below b2; replace RB := RB.below b2; have a0 := MA.1; have a1 := MA.2.1; have a2 := MA.2.2.1; have d0 := MB.1; have d1 := MB.2.1; have d2 := MB.2.2.1; obtain ⟨t0, t1, t2, s0, s1, s2, hlt⟩ := id RB))
    exact bodyPost_ret (v := .tuple #[.agg #[.int .i64 0, .int .i64 0, .slice none 0 0], .int .i64 4]) (by simp [results, Try.results36, go_sem, t0, t1, t2]) rfl ⟨_, rfl, GaveF.none_put ca (by omega) _ _ _⟩
  by_cases q3 : c = r2
  · obtain ⟨R, C, rfl, rfl, hR, hC, hl⟩ := rightM_nat q1
    obtain ⟨C', D, e1, rfl, _, hD, hm⟩ := rightM_nat q2
    have e2 : C' = C := by omega
    subst e2
    clear e1
    subst q3
    rw [decide_eq_true rfl, Bool.true_and, Bool.true_and, if_pos rfl]
    simp only [Int.toNat_natCast]
    exact rmul_R R C' D xs ys ao bo cap cap2 w hr hs hF hG hl hm hR hC hD
  · rw [q1] at c1
    rw [q2] at c2'
    rw [Bool.true_and, decide_eq_false q3, if_neg (by decide)]
    have b9 : (c != r2) = true := by simp [q3]
    clear hr hs hF hG q1 q2 q3
    generalize xs.length = n at *
    generalize ys.length = m at *
    go_enter Try.func36, Try.ntmps36
    go_wp2_with (first | (go_at_call_of 24 (Value.agg #[Value.int IntKind.i64 r, Value.int IntKind.i64 c, Value.slice ao n cap]); refine (c1 _).mono ?_; rintro e w1 ⟨rfl, b1⟩; have bb := old_three b1; have MA := (((B3.new _ _ _ _ _).alloc _).alloc _).below b1; have MB := ((B3.newAt (n := w.heap.size + 1) (by go_simp) _ _ _ _).alloc _).below b1; have RB := (B3.newAt (n := w.heap.size + 1 + 1) (by go_simp) _ _ _ _).below b1; have a0 := MA.1; have a1 := MA.2.1; have a2 := MA.2.2.1; have d0 := MB.1; have d1 := MB.2.1; have d2 := MB.2.2.1; obtain ⟨t0, t1, t2, s0, s1, s2, hlt⟩ := id RB) | (go_at_call_of 24 (Value.agg #[Value.int IntKind.i64 r2, Value.int IntKind.i64 c2, Value.slice bo m cap2]); refine (c2' _).mono ?_; rintro e w2 ⟨rfl, b2⟩; have ca := bb.trans (b2.mono bb.size); replace MA := MA.below b2; replace MB := MB.below b2; replace RB := RB.below b2; have a0 := MA.1; have a1 := MA.2.1; have a2 := MA.2.2.1; have d0 := MB.1; have d1 := MB.2.1; have d2 := MB.2.2.1; obtain ⟨t0, t1, t2, s0, s1, s2, hlt⟩ := id RB))
    exact bodyPost_ret (v := .tuple #[.agg #[.int .i64 0, .int .i64 0, .slice none 0 0], .int .i64 4]) (by simp [results, Try.results36, go_sem, t0, t1, t2]) rfl ⟨_, rfl, GaveF.none_put ca (by omega) _ _ _⟩
theorem own_later {w w' : World} {b : Nat} {e : TypeId} {v : Value} {n : Nat} {xs : List Value} (h : w.ownsRow b e 1 v n xs) (hb : Below w.heap.size w w') : w'.ownsRow b e 1 v n xs := by
  have hl := h.lt
  refine ⟨h.1, ?_⟩
  rcases h.2 with hn | ⟨g, cap, cur, rfl, h2, h3, h4⟩
  · exact Or.inl hn
  · exact Or.inr ⟨g, cap, cur, rfl, h2, by rw [hb.block g (hl g rfl).2]; exact h3, h4⟩
set_option maxRecDepth 100000 in
set_option maxHeartbeats 4000000 in
theorem rapply_any (r c : Int) (xs ys : List Nat) (ao bo : Option Addr) (cap cap2 : Nat) (w : World) (hr : GRow w ao xs) (hs : GRow w bo ys) (hF : FW xs) (hG : FW ys) (hm : ys.length ≤ 17592186044416) :
    Calls Try.prog 38 #[mxV r c ao xs.length cap, .slice bo ys.length cap2] w fun e w' => ∃ v, e = .returned (.tuple #[v, .int .i64 (apA r c xs ys).2]) ∧ GaveF w (apA r c xs ys).1 v w' := by
  have c1 := fun w => rright_any r c ao xs.length cap w
  unfold apA mlA
  cases q1 : rightM r c xs.length
  · rw [q1] at c1
    rw [Bool.false_and, Bool.false_and, if_neg (by decide)]
    generalize xs.length = n at *
    go_enter Try.func38, Try.ntmps38
    go_wp2_with (go_at_call 24; refine (c1 _).mono ?_; rintro e w1 ⟨rfl, b1⟩; have bb := old_one b1; have MA := (B3.new _ _ _ _ _).below b1; have a0 := MA.1; have a1 := MA.2.1; have a2 := MA.2.2.1)
    exact bodyPost_ret (v := .tuple #[.slice none 0 0, .int .i64 4]) (by simp [results, Try.results38, go_sem]) rfl ⟨_, rfl, GaveF.nil bb⟩
  rw [q1] at c1
  obtain ⟨R, C, rfl, rfl, hR, hC, hl⟩ := rightM_nat q1
  have e1 : rightM C 1 ys.length = decide (ys.length = C) := by
    unfold rightM
    rw [okN_iff.2 ⟨by omega, by omega⟩, show okN 1 = true from rfl, Int.mul_one]
    by_cases h : ys.length = C
    · rw [h]; simp
    · rw [decide_eq_false h, decide_eq_false (by omega)]; rfl
  rw [e1, Bool.true_and, decide_eq_true rfl, Bool.and_true]
  clear q1 e1
  by_cases hy : ys.length = C
  case neg =>
    rw [decide_eq_false hy, if_neg (by decide)]
    have b9 : ((ys.length : Int) != (C : Int)) = true := by simp; omega
    clear hl hy
    generalize xs.length = n at *
    go_enter Try.func38, Try.ntmps38
    go_wp2_with (go_at_call 24; refine (c1 _).mono ?_; rintro e w1 ⟨rfl, b1⟩; have bb := old_one b1; have MA := (B3.new _ _ _ _ _).below b1; have a0 := MA.1; have a1 := MA.2.1; have a2 := MA.2.2.1)
    exact bodyPost_ret (v := .tuple #[.slice none 0 0, .int .i64 4]) (by simp [results, Try.results38, go_sem]) rfl ⟨_, rfl, GaveF.nil bb⟩
  rw [decide_eq_true hy, if_pos rfl]
  have HX : Hid (xs.length = R * C) := hl
  have HY : Hid (ys.length = C) := hy
  have b9 : ((ys.length : Int) != (C : Int)) = false := by simp; omega
  clear hl hy
  simp only [Int.toNat_natCast, show (1 : Int).toNat = 1 from rfl]
  obtain ⟨n, hn⟩ : ∃ n, xs.length = n := ⟨_, rfl⟩
  have HXn : Hid (xs.length = n) := hn
  rw [hn] at c1 ⊢
  clear hn
  obtain ⟨i0, hi, hz0, hz1, hz2⟩ := info_parts Try.infoF
  go_enter Try.func38, Try.ntmps38
  go_upto_region 4 with (go_at_call 24; refine (c1 _).mono ?_; rintro e w1 ⟨rfl, b1⟩; have bb := old_one b1; have MA := (B3.new _ _ _ _ _).below b1; have a0 := MA.1; have a1 := MA.2.1; have a2 := MA.2.2.1)
  clear c1 b1 a0 a1 a2
  go_wp2
  go_loopg [6, 7] R (fun gg v s wr => ∃ (i : Nat) (rs : List Nat), i ≤ R ∧ gg = R - i ∧ s = .int .i64 i ∧ Hid (rs.length = i) ∧ Hid (∀ j, j < i → NR (muO C 1 xs ys j 0 C) (rs.getD j 0)) ∧ wr.ownsRow (w.heap.size + 1) 31 1 v i (fv rs) ∧ B3 wr w.heap.size (.int .i64 R) (.int .i64 C) (.slice ao n cap) ∧ w.heap.size + 1 ≤ wr.heap.size ∧ Below w.heap.size w wr)
  case atStart => exact ⟨0, [], Nat.zero_le _, rfl, rfl, rfl, fun j hj => by omega, World.ownsRow_nil _ _ _ _, MA, MA.2.2.2.2.2.2, bb⟩
  case round =>
    clear MA bb
    obtain ⟨i, rs, hi', hgg, rfl, hrl, hv, hown, MA, hsz, hb⟩ := hrel
    have HG : Hid (gk = R - i) := hgg
    clear hgg
    have a0 := MA.1
    by_cases hlt : i < R
    · have j1 : (i : Int) < (R : Int) := by omega
      generalize wr = wv at *
      go_wp2
      go_loopg [8, 9] C (fun gg s q wr => ∃ (k t : Nat), k ≤ C ∧ gg = C - k ∧ s = .float .f64 t ∧ q = .int .i64 k ∧ Hid (NR (muO C 1 xs ys i 0 k) t) ∧ Below wv.heap.size wv wr)
      case atStart => exact ⟨0, 0, Nat.zero_le _, rfl, rfl, rfl, ⟨by omega, rfl⟩, Below.refl _ _⟩
      case round =>
        obtain ⟨k, t, hk, hgg, rfl, rfl, hsum, hbv⟩ := hrel
        have HG3 : Hid (gk = C - k) := hgg
        clear hgg a0
        obtain ⟨a0, a1, a2, _⟩ := id (MA.below hbv)
        have bwv := hb.trans (hbv.mono hb.size)
        by_cases hlt3 : k < C
        · have j3 : (k : Int) < (C : Int) := by omega
          have hp : i * C + k < xs.length := by rw [HX.out]; exact at_lt hlt hlt3
          have hq : k < ys.length := by rw [HY.out]; exact hlt3
          have j4 : (k : Int) < (ys.length : Int) := by omega
          have ce := fun W h => rat_any xs R C i k (i * C + k) n cap ao W h (by omega) hC (by omega) rfl hp HXn.out
          have HSU : Hid (∀ W W', NR (muO C 1 xs ys i 0 (k + 1)) (opR .add t (opR .mul (xs.getD (i * C + k) 0) (ys.getD k 0) W) W')) := fun W W' => by
            rw [muO]
            have e : enO 1 ys k 0 = toO (ys.getD k 0) := by unfold enO; rw [Nat.mul_one, Nat.add_zero]
            rw [e]
            exact opO_NR (Or.inl rfl) hsum.out (opO_NR opMu (toO_NR (hF.at hp)) (toO_NR (hG.at hq)) W) W'
          rcases hs.below bwv with h | ⟨b, off, rfl, hc⟩
          · omega
          have g1 := hc k hq
          generalize xs.getD (i * C + k) 0 = x at *
          generalize ys.getD k 0 = y at *
          have h1 := fun x y w => run_op4 (P := Try.prog) (op := .mul) opMu 31 x y w
          have h2 := fun x y w => run_op4 (P := Try.prog) (op := .add) (Or.inl rfl) 31 x y w
          have hcv := conv64
          have ha := (MA.below hbv).drew
          have hr' : GRow wr.drew ao xs := hr.below bwv.drew
          have HB := hbv.drew
          have HA : ∀ w1, Below wr.drew.heap.size wr.drew w1 → w1.cell? ⟨w.heap.size, 0, none⟩ = some (.int .i64 R) ∧ w1.cell? ⟨w.heap.size, 1, none⟩ = some (.int .i64 C) ∧ w1.cell? ⟨w.heap.size, 2, none⟩ = some (.slice ao n cap) ∧ w1.cell? ⟨b, off + k, none⟩ = some (.float .f64 y) := fun w1 h => by obtain ⟨x0, x1, x2, _⟩ := ha.below h; exact ⟨x0, x1, x2, by rw [h.cell (World.block_lt_of_cell? wr _ g1)]; exact g1⟩
          have hop : ∀ W a, (opW .mul x y W).cell? a = W.cell? a := fun W a => by unfold World.cell?; rw [opW_heap]
          clear ha bwv hc hp hq hsum
          go_wp2
          first | (go_region_held (fun w' => w'.cell? ⟨w.heap.size, 0, none⟩ = some (.int .i64 R) ∧ w'.cell? ⟨w.heap.size, 1, none⟩ = some (.int .i64 C) ∧ w'.cell? ⟨w.heap.size, 2, none⟩ = some (.slice ao n cap) ∧ w'.cell? ⟨b, off + k, none⟩ = some (.float .f64 y)) (go_keep)
           (first
            | (go_at_call 63; refine (ce _ hr').mono ?_; rintro e w1 ⟨rfl, hb1⟩; have hA1 := HA _ hb1; have HB1 := HB.trans (hb1.mono HB.size)))) | fail
          all_goals
            go_wp2
            go_roundg (C - (k + 1))
            case measure => rw [HG3.out]; omega
            case rel => exact ⟨k + 1, _, by omega, rfl, rfl, by go_num, HSU.out _ _, opW_below .add t _ (opW_below .mul x y HB1)⟩
        · have ek : k = C := by omega
          subst ek
          have j3 : ¬ (k : Int) < (k : Int) := by omega
          have hown2 : wr.ownsRow (w.heap.size + 1) 31 1 u6 i (fv rs) := own_later hown hbv
          have hsz2 : w.heap.size + 1 ≤ wr.heap.size := Nat.le_trans hsz hbv.size
          have HW : ∀ o, w.heap.size + 1 ≤ (wr.alloc o).heap.size := fun o => by simp; omega
          have HSN : Hid ((rs ++ [t]).length = i + 1 ∧ ∀ j, j < i + 1 → NR (muO k 1 xs ys j 0 k) ((rs ++ [t]).getD j 0)) := NR_snoc hrl.out hv.out hsum.out
          have MA2 := MA.below hbv
          clear hv hsum hown
          go_wp2_with (at_builtin; refine wpList_append_own _ rfl _ _ 22 rfl (w.heap.size + 1) 31 i0 (.float .f64 0) 1 8 Try.underlying22 hi hz0 hz1 hz2 rfl (by decide) _ _ _ rfl (hown2.alloc _) _ 1 1 [.float .f64 t] rfl rfl (World.news_of_block (cs := #[.float .f64 t]) (t := 31) (fr := (0, 0)) (heap_alloc_new _ _)) (by simp [Value.oneCell']) (by unfold maxLen; omega) (by omega) (HW _) ?_; intro v' w2 hown1 hgrow _)
          have hb2 : Below (w.heap.size + 1) wr w2 := ((Below.refl _ _).alloc hsz2 _).grown hgrow (HW _) (fun k hk => (hown2.lt k hk).1)
          have hown3 : w2.ownsRow (w.heap.size + 1) 31 1 v' (i + 1) (fv (rs ++ [t])) := by rw [fv_snoc]; exact hown1
          have MA3 : B3 w2 w.heap.size (.int .i64 R) (.int .i64 k) (.slice ao n cap) := MA2.past hb2 (by omega)
          have hb4 := bwv.trans (hb2.mono (by omega))
          have hsz4 : w.heap.size + 1 ≤ w2.heap.size := Nat.le_trans hsz2 hb2.size
          clear hown1 hgrow HW hown2 hb2
          go_roundg (R - (i + 1))
          case measure => rw [HG.out]; omega
          case rel => exact ⟨i + 1, rs ++ [t], by omega, rfl, by go_num, HSN.out.1, HSN.out.2, hown3, MA3, hsz4, hb4⟩
    · have ei : i = R := by omega
      subst ei
      have j1 : ¬ (i : Int) < (i : Int) := by omega
      have hG2 : GaveF w (tabM i 1 (fun i j => muO C 1 xs ys i j C)) u6 wr := by
        obtain ⟨zo, zc, e, g1, g2, g3⟩ := owned_grow (xs := rs) (by rw [hrl.out]; exact hown)
        refine ⟨zo, zc, rs, e, ⟨by rw [tabM_len, Nat.mul_one]; exact hrl.out, fun q hq => ?_⟩, g1, g2, g3.mono (by omega), hb⟩
        rw [tabM_len, Nat.mul_one] at hq
        have h1 := tabM_at (R := i) (C := 1) (o := fun i j => muO C 1 xs ys i j C) hq (show 0 < 1 by omega)
        rw [Nat.mul_one, Nat.add_zero] at h1
        rw [h1]
        exact hv.out q hq
      clear hv hown
      go_wp2
      exact bodyPost_ret (v := .tuple #[u6, .int .i64 0]) (by simp [results, Try.results38, go_sem]) rfl ⟨_, rfl, hG2⟩
end Go.Proofs.Ytnbdhbmiiplmbaa
