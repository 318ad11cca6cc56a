/- SolveTurns: its walk. -/
import Derived.Test.YtclldmdhpojciaaSq1
namespace Go.Proofs.Ytclldmdhpojciaa
open Go.RowKit

theorem GaveLe.none {w w' : World} {q : Int} {e : Ending} (h : GaveLe w ([], q) e w') : ∃ xo xc, e = .returned (.tuple #[.slice xo 0 xc, .int .i64 q]) ∧ Below w.heap.size w w' := by
  obtain ⟨_, rfl, xo, xc, xs, rfl, h1, _, _, _, h5⟩ := h
  have h2 : xs.length = 0 := h1.1
  rw [h2]
  exact ⟨xo, xc, rfl, h5⟩
theorem GaveLe.some' {w w' : World} {N : Nat} {o : Nat → Option Nat} {e : Ending} (h : GaveLe w (tab N o, 0) e w') : ∃ xo xc xs, e = .returned (.tuple #[.slice xo N xc, .int .i64 0]) ∧ xs.length = N ∧ (∀ i, i < N → NR (o i) (xs.getD i 0)) ∧ GRow w' xo xs ∧ Below w.heap.size w w' := by
  obtain ⟨_, rfl, xo, xc, xs, rfl, h1, h2, _, _, h5⟩ := h
  have h3 : xs.length = N := h1.1.trans (tab_len _ _)
  refine ⟨xo, xc, xs, by rw [h3], h3, fun i hi => ?_, h2, h5⟩
  have := h1.2 i (by rw [tab_len]; exact hi)
  rw [tab_at hi] at this
  exact this
theorem GaveA.none {w w' : World} {q : Int} {e : Ending} (h : GaveA w (noA q) e w') : ∃ xo xc, e = .returned (.tuple #[mxV 0 0 xo 0 xc, .int .i64 q]) ∧ Below w.heap.size w w' := by
  obtain ⟨_, rfl, xo, xc, xs, rfl, h1, _, _, _, h5⟩ := h
  have h2 : xs.length = 0 := h1.1
  rw [h2]
  exact ⟨xo, xc, rfl, h5⟩
theorem GaveA.some' {w w' : World} {N NN : Nat} {o : Nat → Nat → Option Nat} {e : Ending} (hN : N * N = NN) (h : GaveA w ⟨N, N, tabM N N o, 0⟩ e w') : ∃ xo xc xs, e = .returned (.tuple #[mxV N N xo NN xc, .int .i64 0]) ∧ xs.length = NN ∧ (∀ i j, i < N → j < N → NR (o i j) (xs.getD (i * N + j) 0)) ∧ GRow w' xo xs ∧ Below w.heap.size w w' := by
  obtain ⟨_, rfl, xo, xc, xs, rfl, h1, h2, _, _, h5⟩ := h
  have h3 : xs.length = NN := by rw [h1.1, tabM_len, hN]
  refine ⟨xo, xc, xs, by rw [h3], h3, fun i j hi hj => ?_, h2, h5⟩
  have := h1.2 (i * N + j) (by rw [tabM_len]; exact at_lt hi hj)
  rw [tabM_at hi hj] at this
  exact this
set_option maxRecDepth 100000 in
set_option maxHeartbeats 2000000 in
/-- What does not fit. -/
theorem turns13_a (n : Int) (ls ds bs : List Nat) (lo dO bo : Option Addr) (lc dc bc : Nat) (w : World) (hL : GRow w lo ls) (hD : GRow w dO ds) (hB : GRow w bo bs) (fL : FW ls) (fD : FW ds) (fB : FW bs) (q : fitF n ls.length ds.length bs.length = false) :
    Calls Try.prog 6 #[fcV n lo ls.length lc dO ds.length dc, .slice bo bs.length bc] w fun e w' => e = .returned (.bool true) ∧ Below w.heap.size w w' := by
  have M0 := B3.new w (.int .i64 n) (.slice lo ls.length lc) (.slice dO ds.length dc) 27
  have B0 := below_one w (.cells #[.int .i64 n, .slice lo ls.length lc, .slice dO ds.length dc] 27)
  have hob : ∀ i, i < bs.length → NR (toO (bs.getD i 0)) (bs.getD i 0) := fun i hi => toO_NR (fB.at hi)
  have c1 := fun W h1 h2 => sforward_any n ls bs lo dO bo lc ds.length dc bc (fun i => toO (bs.getD i 0)) W h1 h2 fL hob
  have c2 := fun W h1 h2 h3 => ssolve_any n ls ds bs lo dO bo lc dc bc (fun i => toO (bs.getD i 0)) W h1 h2 h3 fL fD hob
  rw [show fwA n ls ds.length bs.length (fun i => toO (bs.getD i 0)) = ([], 4) by unfold fwA; rw [q]; rfl] at c1
  rw [show slA n ls ds bs.length (fun i => toO (bs.getD i 0)) = ([], 4) by unfold slA; rw [q]; rfl] at c2
  clear q hob
  go_enter Try.func6, Try.ntmps6
  go_wp2_with (first
    | (go_at_call 8; refine (c1 _ (hL.below B0) (hB.below B0)).mono ?_; intro e w1 k1; obtain ⟨xo, xc, rfl, b1⟩ := k1.none; have B1 := B0.trans (b1.mono B0.size); obtain ⟨m0, m1, m2, _⟩ := M0.below b1)
    | (go_at_call 10; refine (c2 _ (hL.below B1) (hD.below B1) (hB.below B1)).mono ?_; intro e w2 k2; obtain ⟨yo, yc, rfl, b2⟩ := k2.none; have B2 := B1.trans (b2.mono B1.size))
    | (go_at_call 18; refine (awake13 _).mono ?_; rintro e w3 ⟨rfl, b3⟩))
  go_ret
  exact ⟨rfl, B2.trans (b3.mono B2.size)⟩
set_option maxRecDepth 100000 in
set_option maxHeartbeats 2000000 in
/-- A pivot of 0. -/
theorem turns13_b (n : Int) (ls ds bs : List Nat) (lo dO bo : Option Addr) (lc dc bc : Nat) (w : World) (hL : GRow w lo ls) (hD : GRow w dO ds) (hB : GRow w bo bs) (fL : FW ls) (fD : FW ds) (fB : FW bs) (q : fitF n ls.length ds.length bs.length = true) (qz : zL ds = true) :
    Calls Try.prog 6 #[fcV n lo ls.length lc dO ds.length dc, .slice bo bs.length bc] w fun e w' => e = .returned (.bool true) ∧ Below w.heap.size w w' := by
  have M0 := B3.new w (.int .i64 n) (.slice lo ls.length lc) (.slice dO ds.length dc) 27
  have B0 := below_one w (.cells #[.int .i64 n, .slice lo ls.length lc, .slice dO ds.length dc] 27)
  have hob : ∀ i, i < bs.length → NR (toO (bs.getD i 0)) (bs.getD i 0) := fun i hi => toO_NR (fB.at hi)
  have c1 := fun W h1 h2 => sforward_any n ls bs lo dO bo lc ds.length dc bc (fun i => toO (bs.getD i 0)) W h1 h2 fL hob
  have c2 := fun W h1 h2 h3 => ssolve_any n ls ds bs lo dO bo lc dc bc (fun i => toO (bs.getD i 0)) W h1 h2 h3 fL fD hob
  have c3 := fun W (rs : List Nat) (ro : Option Addr) (rc : Nat) h1 h2 h3 (hr : ∀ i, i < rs.length → NR (fwO (lsF ls) (fun i => toO (bs.getD i 0)) i) (rs.getD i 0)) => sback_any n ls ds rs lo dO ro lc dc rc (fwO (lsF ls) (fun i => toO (bs.getD i 0))) W h1 h2 h3 fL fD hr
  have c4 := fun W h1 h2 => sinverse_any n ls ds lo dO lc dc W h1 h2 fL fD
  have c5 := fun xo xc yo yc W => sreals_any [] [] xo yo xc yc W (Or.inl rfl) (Or.inl rfl) (fw_lit _ (by decide)) (fw_lit _ (by decide)) (by decide) (by decide)
  rw [show sameL [] [] = true by kernel_rfl] at c5
  obtain ⟨N, rfl, hN, hl, hd, hbn⟩ := fit_nat q
  have q1 : rightF N ls.length ds.length = true := by unfold fitF at q; rw [Bool.and_eq_true] at q; exact q.1
  rw [show fwA N ls ds.length bs.length (fun i => toO (bs.getD i 0)) = (tab N (fwO (lsF ls) (fun i => toO (bs.getD i 0))), 0) by unfold fwA; rw [q, Int.toNat_natCast]; rfl] at c1
  rw [show slA N ls ds bs.length (fun i => toO (bs.getD i 0)) = ([], 7) by unfold slA; rw [q, qz]; rfl] at c2
  rw [show ivA N ls ds = noA 7 by unfold ivA; rw [q1, qz]; rfl] at c4
  have eB : ∀ rs : List Nat, rs.length = N → bkA N ls ds rs.length (fwO (lsF ls) (fun i => toO (bs.getD i 0))) = ([], 7) := fun rs hr => by
    unfold bkA
    rw [show fitF N ls.length ds.length rs.length = true by rw [hr]; rw [hbn] at q; exact q, qz]
    rfl
  have c3' : ∀ W (rs : List Nat) (ro : Option Addr) (rc : Nat), rs.length = N → GRow W lo ls → GRow W dO ds → GRow W ro rs → (∀ i, i < N → NR (fwO (lsF ls) (fun i => toO (bs.getD i 0)) i) (rs.getD i 0)) → Calls Try.prog 11 #[fcV N lo ls.length lc dO ds.length dc, .slice ro N rc] W fun e w' => GaveLe W ([], 7) e w' := fun W rs ro rc hr h1 h2 h3 h4 => by
    have := c3 W rs ro rc h1 h2 h3 (fun i hi => h4 i (by omega))
    rw [eB rs hr, hr] at this
    exact this
  clear q q1 qz hob c3 eB hl hd hbn
  go_enter Try.func6, Try.ntmps6
  go_wp2_with (first
    | (go_at_call 8; refine (c1 _ (hL.below B0) (hB.below B0)).mono ?_; intro e w1 k1; obtain ⟨xo, xc, xs, rfl, x1, x2, x3, b1⟩ := k1.some'; have B1 := B0.trans (b1.mono B0.size); have M1 := M0.below b1; obtain ⟨m0, m1, m2, _⟩ := id M1)
    | (go_at_call 10; refine (c2 _ (hL.below B1) (hD.below B1) (hB.below B1)).mono ?_; intro e w2 k2; obtain ⟨yo, yc, rfl, b2⟩ := k2.none; have B2 := B1.trans (b2.mono B1.size); have M2 := M1.below b2; have x4 := x3.below b2; obtain ⟨m0', m1', m2', _⟩ := id M2)
    | (go_at_call 11; refine (c3' _ xs _ _ x1 (hL.below B2) (hD.below B2) x4 x2).mono ?_; intro e w3 k3; obtain ⟨zo, zc, rfl, b3⟩ := k3.none; have B3' := B2.trans (b3.mono B2.size); have M3 := M2.below b3; obtain ⟨p0, p1, p2, _⟩ := id M3; clear x1)
    | (go_at_call 15; refine (c4 _ (hL.below B3') (hD.below B3')).mono ?_; intro e w4 k4; obtain ⟨mo, mc, rfl, b4⟩ := k4.none; have B4 := B3'.trans (b4.mono B3'.size); have B5 := B4.trans ((below_one w4 (.cells #[.int .i64 0, .int .i64 0, .slice mo 0 mc] 34)).mono B4.size); have MM := B3.new w4 (.int .i64 0) (.int .i64 0) (.slice mo 0 mc) 34)
    | (go_at_call 31; refine (c5 _ _ _ _ _).mono ?_; rintro e w5 ⟨rfl, b5⟩; have B6 := B5.trans (b5.mono B5.size); obtain ⟨r0, r1, r2, _⟩ := MM.below b5)
    | (go_at_call 18; refine (awake13 _).mono ?_; rintro e w6 ⟨rfl, b6⟩))
  go_ret
  exact ⟨rfl, B6.trans (b6.mono B6.size)⟩
end Go.Proofs.Ytclldmdhpojciaa
