/- SolveTurns: all ways. -/
import Derived.Test.YtclldmdhpojciaaSq3
namespace Go.Proofs.Ytclldmdhpojciaa
open Go.RowKit

theorem fit_ok {N k : Nat} {ln dn bn : Nat} (q : fitF N ln dn bn = true) (h : bn = N) (hk : k = N) : fitF N ln dn k = true := by rw [hk, ← h]; rw [h] at q ⊢; exact q
/-- No pivot is 0. -/
theorem turns13_c (n : Int) (ls ds bs : List Nat) (lo dO bo : Option Addr) (lc dc bc : Nat) (w : World) (hL : GRow w lo ls) (hD : GRow w dO ds) (hB : GRow w bo bs) (fL : FW ls) (fD : FW ds) (fB : FW bs) (q : fitF n ls.length ds.length bs.length = true) (qz : zL ds = false) :
    Calls Try.prog 6 #[fcV n lo ls.length lc dO ds.length dc, .slice bo bs.length bc] w fun e w' => e = .returned (.bool true) ∧ Below w.heap.size w w' := by
  obtain ⟨N, rfl, hN, hl, hd, hbn⟩ := fit_nat q
  have q1 : rightF N ls.length ds.length = true := by unfold fitF at q; rw [Bool.and_eq_true] at q; exact q.1
  have eS : ∀ (k : Nat) b, k = N → slA N ls ds k b = (tab N (slO ls ds N b), 0) := fun k b hk => by unfold slA; rw [fit_ok q hbn hk, qz, Int.toNat_natCast]; rfl
  have hob : ∀ i, i < bs.length → NR (toO (bs.getD i 0)) (bs.getD i 0) := fun i hi => toO_NR (fB.at hi)
  have cS : ∀ (rs : List Nat) (ro : Option Addr) (rc : Nat) (b : Nat → Option Nat), rs.length = N → (∀ i, i < N → NR (b i) (rs.getD i 0)) → ∀ W, Below w.heap.size w W → GRow W ro rs → Calls Try.prog 10 #[fcV N lo ls.length lc dO ds.length dc, .slice ro rs.length rc] W fun e w' => GaveLe W (tab N (slO ls ds N b), 0) e w' := fun rs ro rc b hr hb W hW h3 => by
    have := ssolve_any N ls ds rs lo dO ro lc dc rc b W (hL.below hW) (hD.below hW) h3 fL fD (fun i hi => hb i (by omega))
    rw [eS _ b hr] at this
    exact this
  have hOp : ∀ i, i < N → OpO (slO ls ds N (fun i => toO (bs.getD i 0)) i) (slO ls ds N (fun i => toO (negW (bs.getD i 0))) i) := fun i hi => op_sl (fun k hk => OpO_neg (fB.at (by omega))) hi
  refine turns13_walk N (N * N) ls.length lc ds.length dc bs.length bc lo dO bo (bs.map negW) (slO ls ds N (fun i => toO (bs.getD i 0))) (fwO (lsF ls) (fun i => toO (bs.getD i 0))) (slO ls ds N (fun i => toO (negW (bs.getD i 0)))) (fun i j => slO ls ds N (unO j) i) w hN rfl (mul48 hN hN) mulI ?_ ?_ ?_ ?_ ?_ ?_ ?_ ?_ ?_ ?_
  · intro W hW
    have := sforward_any N ls bs lo dO bo lc ds.length dc bc (fun i => toO (bs.getD i 0)) W (hL.below hW) (hB.below hW) fL hob
    rw [show fwA N ls ds.length bs.length (fun i => toO (bs.getD i 0)) = (tab N (fwO (lsF ls) (fun i => toO (bs.getD i 0))), 0) by unfold fwA; rw [q, Int.toNat_natCast]; rfl] at this
    exact this
  · intro W hW
    exact cS bs bo bc _ hbn (fun i hi => hob i (by omega)) W hW (hB.below hW)
  · intro W rs ro rc hW hr h3 h4
    have := sback_any N ls ds rs lo dO ro lc dc rc (fwO (lsF ls) (fun i => toO (bs.getD i 0))) W (hL.below hW) (hD.below hW) h3 fL fD (fun i hi => h4 i (by omega))
    rw [show bkA N ls ds rs.length (fwO (lsF ls) (fun i => toO (bs.getD i 0))) = (tab N (slO ls ds N (fun i => toO (bs.getD i 0))), 0) by unfold bkA; rw [fit_ok q hbn hr, qz, Int.toNat_natCast]; rfl, hr] at this
    exact this
  · intro W hW
    have := sinverse_any N ls ds lo dO lc dc W (hL.below hW) (hD.below hW) fL fD
    rw [show ivA N ls ds = ⟨N, N, tabM N N (fun i j => slO ls ds N (unO j) i), 0⟩ by unfold ivA; rw [q1, qz, Int.toNat_natCast]; rfl] at this
    exact this.mono fun e w' k => GaveA.some' rfl k
  · intro W hW
    exact minus13_any bs bo bc W (hB.below hW) (by omega)
  · intro W mo mc hW h3
    exact cS (bs.map negW) mo mc _ (by rw [negL_len]; exact hbn) (fun i hi => by rw [negL_at (by omega)]; exact toO_NR (negW_lt (fB.at (by omega)))) W hW h3
  · intro W xs xo xc h1 h2
    have := minus13_any xs xo xc W h2 (by omega)
    rw [h1] at this
    refine this.mono ?_
    rintro e w' ⟨bo, bc, rfl, k1, k2⟩
    exact ⟨bo, bc, by rw [negL_len, h1], k1, k2⟩
  · intro us xs h1 h2 h3 h4 uo no uc nc W h5 h6
    have := equal13_any us (xs.map negW) uo no uc nc W h5 h6 (by rw [negL_len]; omega) (by omega) (fun i hi => by rw [negL_at (by omega)]; exact EqN_op (hOp i (by omega)) (h3 i (by omega)) (h4 i (by omega)) (PO_sl (by omega)) (PO_sl (by omega)))
    rw [negL_len, h1, h2] at this
    exact this
  · intro xs zs h1 h2 h3 h4 xo zo xc zc W h5 h6
    have l1 : LN (tab N (slO ls ds N (fun i => toO (bs.getD i 0)))) xs := LN_tab h1 h3
    have l2 : LN (tab N (slO ls ds N (fun i => toO (bs.getD i 0)))) zs := LN_tab h2 h4
    have := sreals_any xs zs xo zo xc zc W h5 h6 l1.fw l2.fw (by omega) (by omega)
    rw [l1.same l2, h1, h2] at this
    exact this
  · intro W B c hc hW hR
    have := cS (toL' N (fun p => if p = c then 4607182418800017408 else 0)) (some ⟨B, 0, none⟩) N (unO c) (toL'_len _ _) (fun p hp => by
      rw [toL'_at hp]
      unfold unO
      by_cases e : p = c
      · rw [if_pos e, if_pos e]; exact ⟨by decide, rfl⟩
      · rw [if_neg e, if_neg e]; exact ⟨by decide, rfl⟩) W hW (hR.grow (toL'_len _ _) (fun p hp => toL'_at hp))
    rw [toL'_len] at this
    exact this
theorem turns13_row (n : Int) (ls : List Nat) (lo : Option Addr) (lc : Nat) (ds : List Nat) (dO : Option Addr) (dc : Nat) (bs : List Nat) (bo : Option Addr) (bc : Nat) (w : World) (hL : GRow w lo ls) (fL : FW ls) (_zl : lo = none → lc = 0 ∧ ls.length = 0) (_l1 : ls.length ≤ lc) (_l2 : lc ≤ 17592186044416) (hD : GRow w dO ds) (fD : FW ds) (_zd : dO = none → dc = 0 ∧ ds.length = 0) (_d1 : ds.length ≤ dc) (_d2 : dc ≤ 17592186044416)
    (hB : GRow w bo bs) (fB : FW bs) (_b1 : bs.length ≤ bc) (_b2 : bc ≤ 17592186044416) (_zb : bo = none → bc = 0 ∧ bs.length = 0) :
    Calls Try.prog 6 #[fcV n lo ls.length lc dO ds.length dc, .slice bo bs.length bc] w fun e w' => e = .returned (.bool true) ∧ Below w.heap.size w w' := by
  cases q : fitF n ls.length ds.length bs.length
  · exact turns13_a n ls ds bs lo dO bo lc dc bc w hL hD hB fL fD fB q
  · cases qz : zL ds
    · exact turns13_c n ls ds bs lo dO bo lc dc bc w hL hD hB fL fD fB q qz
    · exact turns13_b n ls ds bs lo dO bo lc dc bc w hL hD hB fL fD fB q qz
end Go.Proofs.Ytclldmdhpojciaa
