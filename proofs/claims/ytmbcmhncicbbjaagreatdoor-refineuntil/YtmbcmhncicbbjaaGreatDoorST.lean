/- The document's Step. -/
import Derived.Test.YtmbcmhncicbbjaaGreatDoorRF
import Derived.Test.YtmbcmhncicbbjaaGreatDoorXM
import Derived.Test.YtmbcmhncicbbjaaGreatDoorS1
import Derived.Test.YtmbcmhncicbbjaaGreatDoorU4
import Derived.Test.YtmbcmhncicbbjaaGreatDoorSO
import Derived.Test.YtmbcmhncicbbjaaGreatDoorLf4
import Derived.Test.YtmbcmhncicbbjaaGreatDoorA1
namespace Go.Proofs.YtmbcmhncicbbjaaGreatDoor
open Go.RowKit

/-- What Step answers. -/
def stA (r c : Int) (ms : List Nat) (n : Int) (ls ds xs bs : List Nat) : List Nat × Int :=
  if ff14 r c n ls.length ds.length then (if (lfA r c ms xs bs).2 = 0 then omA n ls ds xs (lfA r c ms xs bs).1 else ([], (lfA r c ms xs bs).2)) else ([], 4)
theorem stA_len (r c : Int) (ms : List Nat) (n : Int) (ls ds xs bs : List Nat) : (stA r c ms n ls ds xs bs).1.length ≤ xs.length := by
  unfold stA
  split
  · split
    · exact omA_len _ _ _ _ _
    · simp
  · simp
theorem sv14_len {n : Int} {ls ds lf : List Nat} (h : (sv14 n ls ds lf).2 = 0) : (sv14 n ls ds lf).1.length = n.toNat := by
  unfold sv14 slA at h ⊢
  split at h
  · split at h
    · simp at h
    · rename_i h1 h2
      rw [if_pos h1, if_neg h2]
      exact tab_len _ _
  · simp at h
set_option maxRecDepth 100000 in
set_option maxHeartbeats 2000000 in
theorem step14_any (r c : Int) (ms : List Nat) (n : Int) (ls ds xs bs : List Nat) (ao lo dO xo bo : Option Addr) (cap lc dc xc bc : Nat) (w : World) (hT : TabW w) (hM : GRow w ao ms) (hL : GRow w lo ls) (hD : GRow w dO ds) (hX : GRow w xo xs) (hB : GRow w bo bs) (fM : FW ms) (fL : FW ls) (fD : FW ds) (fX : FW xs) (fB : FW bs) (lM : ms.length ≤ 1125899906842624) (lX : xs.length ≤ 17592186044416) (lB : bs.length ≤ 1125899906842624) (hz : Shp ao cap) (hcap : ms.length ≤ cap) :
    Calls Tryz.prog 16 #[mxV r c ao ms.length cap, fcV n lo ls.length lc dO ds.length dc, .slice xo xs.length xc, .slice bo bs.length bc] w fun e w' => GaveE w (stA r c ms n ls ds xs bs) e w' := by
  have S0 := TwoB.new w r c ao ms.length cap n lo ls.length lc dO ds.length dc
  have B0 := S0.below
  have cf := fun W => rff_any r c n ao lo dO ms.length cap ls.length lc ds.length dc W
  have cl := fun W h1 h2 h3 h4 => left_any r c ms xs bs ao xo bo cap xc bc W h1 h2 h3 h4 fM fX fB lM (by omega) lB hz hcap
  unfold stA
  cases q : ff14 r c n ls.length ds.length
  · rw [q] at cf
    rw [if_neg (by decide)]
    clear q cl
    go_enter Tryz.func16, Tryz.ntmps16
    go_wp2_with (go_at_call 36; refine (cf _).mono ?_; rintro e w1 ⟨rfl, b1⟩)
    exact bodyPost_ret (v := .tuple #[.slice none 0 0, .int .i64 4]) (by simp [results, Tryz.results16, go_sem]) rfl (GaveE.none 4 (B0.trans (b1.mono B0.size)))
  rw [q] at cf
  rw [if_pos rfl]
  clear q
  generalize lfA r c ms xs bs = LA at *
  obtain ⟨lf, er⟩ := LA
  simp only at cl ⊢
  by_cases he : er = 0
  case neg =>
    rw [if_neg he]
    have i1 : (er != 0) = true := by simp [he]
    clear he
    go_enter Tryz.func16, Tryz.ntmps16
    go_wp2_with (first
      | (go_at_call 36; refine (cf _).mono ?_; rintro e w1 ⟨rfl, b1⟩; have S1 := S0.later b1; obtain ⟨m0, m1, m2, _⟩ := id S1.mbox)
      | (go_at_call 10; refine (cl _ (tabW_below hT S1.below) (hM.below S1.below) (hX.below S1.below) (hB.below S1.below)).mono ?_; rintro e w4 ⟨yo, yc, rfl, j1, j2, j3, j4, b4⟩; have B5 := S1.below.trans (b4.mono S1.below.size)))
    exact bodyPost_ret (v := .tuple #[.slice none 0 0, .int .i64 er]) (by simp [results, Tryz.results16, go_sem]) rfl (GaveE.none er B5)
  rw [if_pos he]
  subst he
  have co := fun (fo : Option Addr) (fc : Nat) W h1 h2 h3 h4 h5 => once_any n ls ds xs lf lo dO xo fo lc dc xc fc W h1 h2 h3 h4 fL fD fX h5 lX
  generalize omA n ls ds xs lf = A at *
  obtain ⟨vs, er⟩ := A
  go_enter Tryz.func16, Tryz.ntmps16
  go_wp2_with (first
    | (go_at_call 36; refine (cf _).mono ?_; rintro e w1 ⟨rfl, b1⟩; have S1 := S0.later b1; obtain ⟨m0, m1, m2, _⟩ := id S1.mbox)
    | (go_at_call 10; refine (cl _ (tabW_below hT S1.below) (hM.below S1.below) (hX.below S1.below) (hB.below S1.below)).mono ?_; rintro e w4 ⟨yo, yc, rfl, j1, j2, j3, j4, b4⟩; have S4 := S1.later b4; obtain ⟨f0, f1, f2, _⟩ := id S4.fbox)
    | (go_at_call 37; refine (co _ _ _ (hL.below S4.below) (hD.below S4.below) (hX.below S4.below) j1 j2).mono ?_; rintro e w5 ⟨zo, zc, rfl, k1, k2, k3, k4, b5⟩; have B5 := S4.below))
  exact bodyPost_ret (v := .tuple #[.slice zo vs.length zc, .int .i64 er]) (by simp [results, Tryz.results16, go_sem]) rfl ⟨zo, zc, rfl, k1, k2, k3, k4.mono B5.size, B5.trans (b5.mono B5.size)⟩
set_option maxHeartbeats 1000000 in
theorem dfits_any (r c n : Int) (ao lo dO : Option Addr) (mn cap ln lc dn dc : Nat) (w : World)
    (cr : ∀ W, Calls Tryz.prog 70 #[fcV n lo ln lc dO dn dc] W fun e w' => e = .returned (.bool (rightF n ln dn)) ∧ Below W.heap.size W w') (hM : rightM r c mn = true) :
    Calls Tryz.prog 38 #[mxV r c ao mn cap, fcV n lo ln lc dO dn dc] w fun e w' => e = .returned (.bool (ff14 r c n ln dn)) ∧ Below w.heap.size w w' := by
  have cm := fun W => rright_any r c ao mn cap W
  rw [hM] at cm
  clear hM
  have S0 := TwoB.new w r c ao mn cap n lo ln lc dO dn dc
  unfold ff14
  cases q : rightF n ln dn
  · rw [q] at cr
    go_enter Tryz.func38, Tryz.ntmps38
    go_wp2_with (first
      | (go_at_call 51; refine (cm _).mono ?_; rintro e w1 ⟨rfl, b1⟩; have S1 := S0.later b1; obtain ⟨f0, f1, f2, _⟩ := id S1.fbox)
      | (go_at_call 70; refine (cr _).mono ?_; rintro e w2 ⟨rfl, b2⟩; have S2 := S1.later b2))
    go_ret
    exact ⟨rfl, S2.below⟩
  · rw [q] at cr
    by_cases h : r = n
    · have e1 : (r == n) = true := by simp [h]
      rw [decide_eq_true h]
      by_cases h2 : c = n
      · have e2 : (c == n) = true := by simp [h2]
        rw [decide_eq_true h2]
        clear h h2
        go_enter Tryz.func38, Tryz.ntmps38
        go_wp2_with (first
          | (go_at_call 51; refine (cm _).mono ?_; rintro e w1 ⟨rfl, b1⟩; have S1 := S0.later b1; obtain ⟨f0, f1, f2, _⟩ := id S1.fbox)
          | (go_at_call 70; refine (cr _).mono ?_; rintro e w2 ⟨rfl, b2⟩; have S2 := S1.later b2; obtain ⟨m0, m1, m2, _⟩ := id S2.mbox; obtain ⟨f0, f1, f2, _⟩ := id S2.fbox))
        go_ret
        exact ⟨rfl, S2.below⟩
      · have e2 : (c == n) = false := by simp [h2]
        rw [decide_eq_false h2]
        clear h h2
        go_enter Tryz.func38, Tryz.ntmps38
        go_wp2_with (first
          | (go_at_call 51; refine (cm _).mono ?_; rintro e w1 ⟨rfl, b1⟩; have S1 := S0.later b1; obtain ⟨f0, f1, f2, _⟩ := id S1.fbox)
          | (go_at_call 70; refine (cr _).mono ?_; rintro e w2 ⟨rfl, b2⟩; have S2 := S1.later b2; obtain ⟨m0, m1, m2, _⟩ := id S2.mbox; obtain ⟨f0, f1, f2, _⟩ := id S2.fbox))
        go_ret
        exact ⟨rfl, S2.below⟩
    · have e1 : (r == n) = false := by simp [h]
      rw [decide_eq_false h]
      clear h
      go_enter Tryz.func38, Tryz.ntmps38
      go_wp2_with (first
        | (go_at_call 51; refine (cm _).mono ?_; rintro e w1 ⟨rfl, b1⟩; have S1 := S0.later b1; obtain ⟨f0, f1, f2, _⟩ := id S1.fbox)
        | (go_at_call 70; refine (cr _).mono ?_; rintro e w2 ⟨rfl, b2⟩; have S2 := S1.later b2; obtain ⟨m0, m1, m2, _⟩ := id S2.mbox; obtain ⟨f0, f1, f2, _⟩ := id S2.fbox))
      go_ret
      exact ⟨rfl, S2.below⟩
end Go.Proofs.YtmbcmhncicbbjaaGreatDoor

namespace Go.Proofs.YtmbcmhncicbbjaaGreatDoor
open Go.RowKit

set_option maxHeartbeats 1000000 in
theorem rright12_any (n : Int) (lo dO : Option Addr) (ln lc dn dc : Nat) (w : World) :
    Calls Tryz.prog 70 #[fcV n lo ln lc dO dn dc] w fun e w' => e = .returned (.bool (rightF n ln dn)) ∧ Below w.heap.size w w' := by
  have hb := below_one w
  unfold rightF
  cases q : okN n
  · unfold okN at q
    by_cases h0 : 0 ≤ n
    · have h1 : ¬ n ≤ 48 := fun h => by rw [decide_eq_true h0, decide_eq_true h] at q; cases q
      have d0 := decide_eq_true h0
      have d1 := decide_eq_false h1
      clear q
      go_enter Tryz.func70, Tryz.ntmps70
      go_wp2
      go_ret
      exact ⟨rfl, hb _⟩
    · have d0 := decide_eq_false h0
      clear q
      go_enter Tryz.func70, Tryz.ntmps70
      go_wp2
      go_ret
      exact ⟨rfl, hb _⟩
  · obtain ⟨N, rfl, hN⟩ := okN_nat q
    clear q
    rw [Int.toNat_natCast]
    have h0 : (0 : Int) ≤ (N : Int) := by omega
    have h1 : (N : Int) ≤ 48 := by omega
    have e0 := tri_two N
    have ht := tri_le (show N ≤ 49 by omega)
    obtain ⟨T, hT⟩ : ∃ T, tri N = T := ⟨_, rfl⟩
    rw [hT] at e0 ht ⊢
    obtain ⟨q, hq⟩ : ∃ q : Int, q = 2 * (T : Int) := ⟨_, rfl⟩
    rw [← hq] at e0
    clear hT
    by_cases e1 : ln = T
    · rw [decide_eq_true e1]
      have b1 : ((ln : Int) == (T : Int)) = true := by simp [e1]
      clear e1
      by_cases e2 : (dn : Int) = (N : Int)
      · rw [decide_eq_true e2]
        have b2 : ((dn : Int) == (N : Int)) = true := by rw [e2]; simp
        clear e2
        go_enter Tryz.func70, Tryz.ntmps70
        go_wp2
        go_ret
        exact ⟨rfl, hb _⟩
      · rw [decide_eq_false e2]
        have b2 : ((dn : Int) == (N : Int)) = false := by simp; omega
        clear e2
        go_enter Tryz.func70, Tryz.ntmps70
        go_wp2
        go_ret
        exact ⟨rfl, hb _⟩
    · rw [decide_eq_false e1]
      have b1 : ((ln : Int) == (T : Int)) = false := by simp; omega
      clear e1
      go_enter Tryz.func70, Tryz.ntmps70
      go_wp2
      go_ret
      exact ⟨rfl, hb _⟩
end Go.Proofs.YtmbcmhncicbbjaaGreatDoor

namespace Go.Proofs.YtmbcmhncicbbjaaGreatDoor
open Go.RowKit

/-- The sums that a step makes. -/
def adF (xs : List Nat) (os : List (Option Nat)) (i : Nat) : Option Nat := opO .add (toO (xs.getD i 0)) (nO (os.getD i none))
theorem adP_tab (xs : List Nat) (os : List (Option Nat)) : adP xs os = tab xs.length (adF xs os) := rfl
set_option maxRecDepth 100000 in
set_option maxHeartbeats 4000000 in
theorem dstep_any (r c : Int) (ms : List Nat) (n : Int) (ls ds xs bs : List Nat) (ao lo dO xo bo : Option Addr) (cap lc dc xc bc : Nat) (w : World) (hM : GRow w ao ms) (hL : GRow w lo ls) (hD : GRow w dO ds) (hX : GRow w xo xs) (hB : GRow w bo bs) (fM : FW ms) (fL : FW ls) (fD : FW ds) (fX : FW xs) (fB : FW bs) (lM : ms.length ≤ 1125899906842624) (lX : xs.length ≤ 1125899906842624) (lB : bs.length ≤ 1125899906842624) :
    Calls Tryz.prog 17 #[mxV r c ao ms.length cap, fcV n lo ls.length lc dO ds.length dc, .slice xo xs.length xc, .slice bo bs.length bc] w fun e w' => GaveE w (stA r c ms n ls ds xs bs) e w' := by
  have S0 := TwoB.new w r c ao ms.length cap n lo ls.length lc dO ds.length dc
  have cf := fun W => dfit_any14 r c ao xo bo ms.length cap xs.length xc bs.length bc W
  cases q : fit14 r c ms.length xs.length bs.length
  · have eA : stA r c ms n ls ds xs bs = ([], 4) := by unfold stA lfA; rw [q]; simp
    rw [eA]
    rw [q] at cf
    clear eA q
    obtain ⟨m0, m1, m2, _⟩ := id S0.mbox
    go_enter Tryz.func17, Tryz.ntmps17
    go_wp2_with (go_at_call 27; refine (cf _).mono ?_; rintro e w1 ⟨rfl, b1⟩; have S1 := S0.later b1)
    exact bodyPost_ret (v := .tuple #[.slice none 0 0, .int .i64 4]) (by simp [results, Tryz.results17, go_sem]) rfl (GaveE.none 4 S1.below)
  have q' := q
  unfold fit14 at q'
  simp only [Bool.and_eq_true, decide_eq_true_eq] at q'
  have cg := fun W => dfits_any r c n ao lo dO ms.length cap ls.length lc ds.length dc W (fun W => rright12_any n lo dO ls.length lc ds.length dc W) q'.1.1
  rw [q] at cf
  cases q2 : ff14 r c n ls.length ds.length
  · have eA : stA r c ms n ls ds xs bs = ([], 4) := by unfold stA; rw [q2]; rfl
    rw [eA]
    rw [q2] at cg
    clear eA q q2 q'
    go_enter Tryz.func17, Tryz.ntmps17
    go_wp2_with (first
      | (go_at_call 27; refine (cf _).mono ?_; rintro e w1 ⟨rfl, b1⟩; have S1 := S0.later b1; obtain ⟨m0, m1, m2, _⟩ := id S1.mbox; obtain ⟨f0, f1, f2, _⟩ := id S1.fbox)
      | (go_at_call 38; refine (cg _).mono ?_; rintro e w2 ⟨rfl, b2⟩; have S2 := S1.later b2))
    exact bodyPost_ret (v := .tuple #[.slice none 0 0, .int .i64 4]) (by simp [results, Tryz.results17, go_sem]) rfl (GaveE.none 4 S2.below)
  rw [q2] at cg
  have hn : xs.length = n.toNat ∧ xs.length ≤ 48 := by
    have h2 := q2
    unfold ff14 rightF at h2
    simp only [Bool.and_eq_true, decide_eq_true_eq] at h2
    obtain ⟨N, hN, hN2⟩ := okN_nat h2.1.1.1.1
    have h3 := h2.2
    have h4 := q'.1.2
    omega
  have eA : stA r c ms n ls ds xs bs = if (lfA r c ms xs bs).2 = 0 then omA n ls ds xs (lfA r c ms xs bs).1 else ([], (lfA r c ms xs bs).2) := by unfold stA; rw [q2, if_pos rfl]
  rw [eA]
  have cl := fun W h1 h2 h3 => dleft_any r c ms xs bs ao xo bo cap xc bc W h1 h2 h3 fM fX fB lM lX lB
  clear eA q q2 q'
  generalize lfA r c ms xs bs = LA at *
  obtain ⟨lf, er⟩ := LA
  simp only at cl ⊢
  by_cases he : er = 0
  case neg =>
    rw [if_neg he]
    have i1 : (er != 0) = true := by simp [he]
    clear he hn
    go_enter Tryz.func17, Tryz.ntmps17
    go_wp2_with (first
      | (go_at_call 27; refine (cf _).mono ?_; rintro e w1 ⟨rfl, b1⟩; have S1 := S0.later b1; obtain ⟨m0, m1, m2, _⟩ := id S1.mbox; obtain ⟨f0, f1, f2, _⟩ := id S1.fbox)
      | (go_at_call 38; refine (cg _).mono ?_; rintro e w2 ⟨rfl, b2⟩; have S2 := S1.later b2; obtain ⟨m0, m1, m2, _⟩ := id S2.mbox)
      | (go_at_call 11; refine (cl _ (hM.below S2.below) (hX.below S2.below) (hB.below S2.below)).mono ?_; rintro e w3 ⟨yo, yc, rfl, j1, j2, j3, j4, b3⟩; have S3 := S2.later b3))
    exact bodyPost_ret (v := .tuple #[.slice none 0 0, .int .i64 er]) (by simp [results, Tryz.results17, go_sem]) rfl (GaveE.none er S3.below)
  rw [if_pos he]
  subst he
  have cs : ∀ (fo : Option Addr) (fc : Nat) W, GRow W lo ls → GRow W dO ds → GRow W fo lf → FW lf → Calls Tryz.prog 39 #[fcV n lo ls.length lc dO ds.length dc, .slice fo lf.length fc] W fun e w' => GaveLe W (sv14 n ls ds lf) e w' := fun fo fc W h1 h2 h3 h4 => rsolve_any n ls ds lf lo dO fo lc dc fc (fun i => toO (lf.getD i 0)) W h1 h2 h3 fL fD (fun i hi => toO_NR (h4.at hi))
  have hv : (sv14 n ls ds lf).2 = 0 → (sv14 n ls ds lf).1.length = xs.length := fun h => by rw [sv14_len h, hn.1]
  unfold omA
  generalize sv14 n ls ds lf = A at *
  obtain ⟨os, er⟩ := A
  simp only at hv ⊢
  by_cases he : er = 0
  case neg =>
    rw [if_neg he]
    have i1 : (er != 0) = true := by simp [he]
    clear he hn hv
    go_enter Tryz.func17, Tryz.ntmps17
    go_wp2_with (first
      | (go_at_call 27; refine (cf _).mono ?_; rintro e w1 ⟨rfl, b1⟩; have S1 := S0.later b1; obtain ⟨m0, m1, m2, _⟩ := id S1.mbox; obtain ⟨f0, f1, f2, _⟩ := id S1.fbox)
      | (go_at_call 38; refine (cg _).mono ?_; rintro e w2 ⟨rfl, b2⟩; have S2 := S1.later b2; obtain ⟨m0, m1, m2, _⟩ := id S2.mbox)
      | (go_at_call 11; refine (cl _ (hM.below S2.below) (hX.below S2.below) (hB.below S2.below)).mono ?_; rintro e w3 ⟨yo, yc, rfl, j1, j2, j3, j4, b3⟩; have S3 := S2.later b3; obtain ⟨f0, f1, f2, _⟩ := id S3.fbox)
      | (go_at_call 39; refine (cs _ _ _ (hL.below S3.below) (hD.below S3.below) j1 j2).mono ?_; rintro e w4 ⟨_, rfl, ro, rc, rs, rfl, g1, g2, g3, g4, b4⟩; have S4 := S3.later b4))
    exact bodyPost_ret (v := .tuple #[.slice none 0 0, .int .i64 er]) (by simp [results, Tryz.results17, go_sem]) rfl (GaveE.none er S4.below)
  rw [if_pos he]
  have lo' := hv he
  subst he
  have hf : fitN xs.length os.length = 0 := by unfold fitN; rw [if_pos lo'.symm, if_neg (by omega)]
  rw [if_pos hf]
  obtain ⟨A, hA⟩ : ∃ A, (if (adP xs os).all fiO then ((adP xs os).map valO, (0 : Int)) else ([], 6)) = A := ⟨_, rfl⟩
  have HA : Hid ((if (adP xs os).all fiO then ((adP xs os).map valO, (0 : Int)) else ([], 6)) = A) := hA
  rw [hA]
  have l48 := hn.2
  have HL : Hid (os.length = xs.length) := lo'
  clear hA hf hv lo' hn
  obtain ⟨i0, hi, hz0, hz1, hz2⟩ := info_parts Tryz.infoF
  have h1 := fun x y w => run_op4 (P := Tryz.prog) (op := .add) (Or.inl rfl) 48 x y w
  go_enter Tryz.func17, Tryz.ntmps17
  go_upto_region 9 with (first
    | (go_at_call 27; refine (cf _).mono ?_; rintro e w1 ⟨rfl, b1⟩; have S1 := S0.later b1; obtain ⟨m0, m1, m2, _⟩ := id S1.mbox; obtain ⟨f0, f1, f2, _⟩ := id S1.fbox)
    | (go_at_call 38; refine (cg _).mono ?_; rintro e w2 ⟨rfl, b2⟩; have S2 := S1.later b2; obtain ⟨m0, m1, m2, _⟩ := id S2.mbox)
    | (go_at_call 11; refine (cl _ (hM.below S2.below) (hX.below S2.below) (hB.below S2.below)).mono ?_; rintro e w3 ⟨yo, yc, rfl, j1, j2, j3, j4, b3⟩; have S3 := S2.later b3; obtain ⟨f0, f1, f2, _⟩ := id S3.fbox)
    | (go_at_call 39; refine (cs _ _ _ (hL.below S3.below) (hD.below S3.below) j1 j2).mono ?_; rintro e w4 ⟨_, rfl, ro, rc, rs, rfl, g1, g2, g3, g4, b4⟩; have S4 := S3.later b4))
  have B4 := S4.below
  have X4 := hX.below B4
  have lR : rs.length = xs.length := g1.1.trans HL.out
  have GN : Hid (∀ k, k < xs.length → NR (os.getD k none) (rs.getD k 0)) := fun k hk => g1.2 k (by rw [HL.out]; exact hk)
  have fR := g1.fw
  clear cf cg cl cs S0 S1 S2 S3 S4 b1 b2 b3 b4 m0 m1 m2 f0 f1 f2 j1 j2 j3 j4 g1 g3 g4 HL hX hM hL hD hB
  rw [lR]
  have HR' : Hid (rs.length = xs.length) := lR
  clear lR
  obtain ⟨X, eX⟩ : ∃ X, xs.length = X := ⟨_, rfl⟩
  have EX : Hid (xs.length = X) := eX
  rw [eX] at l48 ⊢
  clear eX lX
  go_wp2
  go_loopg [13, 14] X (fun g v i wr => ∃ (k : Nat) (zs : List Nat), k ≤ X ∧ g = X - k ∧ i = .int .i64 k ∧ Hid (zs.length = k) ∧ Hid (∀ j, j < k → NR (adF xs os j) (zs.getD j 0)) ∧ wr.ownsRow w4.heap.size 48 1 v k (fv zs) ∧ Below w4.heap.size w4 wr)
  case atStart => exact ⟨0, [], Nat.zero_le _, rfl, rfl, rfl, fun j hj => by omega, World.ownsRow_nil _ _ _ _, Below.refl _ _⟩
  case round =>
    obtain ⟨k, zs, hk, hg, rfl, hrl, hN, hown, hb⟩ := hrel
    have HG : Hid (gk = X - k) := hg
    clear hg
    have hbs := hb.size
    by_cases hlt : k < X
    · have hltx : k < xs.length := by rw [EX.out]; exact hlt
      have hltr : k < rs.length := by rw [HR'.out]; exact hltx
      rcases X4.below hb with h | ⟨b, off, rfl, hc⟩
      · omega
      rcases g2.below hb with h | ⟨b2, off2, rfl, hd⟩
      · omega
      have p2 := hd k hltr
      have hy := fR.at hltr
      have p1 := hc k hltx
      have hx := fX.at hltx
      have HO : Hid (adF xs os k = opO .add (toO (xs.getD k 0)) (toO (rs.getD k 0))) := (show _ = _ by unfold adF; rw [NR_nO (GN.out k hltx)])
      obtain ⟨x, ex⟩ : ∃ x, xs.getD k 0 = x := ⟨_, rfl⟩
      rw [ex] at p1 hx HO
      obtain ⟨y, ey⟩ : ∃ y, rs.getD k 0 = y := ⟨_, rfl⟩
      rw [ey] at p2 hy HO
      clear ey hd hltr hltx
      clear ex hc
      have i1 : (k : Int) < (X : Int) := by omega
      have HS : Hid (NR (adF xs os k) (opR .add x y wr.drew)) := (show NR _ _ by rw [HO.out]; exact opO_NR (Or.inl rfl) (toO_NR hx) (toO_NR hy) _)
      obtain ⟨z, er⟩ : ∃ z, opR .add x y wr.drew = z := ⟨_, rfl⟩
      rw [er] at HS
      have hO : ∀ o, (World.alloc (opW .add x y wr.drew) o).ownsRow w4.heap.size 48 1 u13 k (fv zs) := fun o => World.ownsRow.alloc (own_opW hown.drew .add x y) o
      have HZ : ∀ o, w4.heap.size ≤ (World.alloc (opW .add x y wr.drew) o).heap.size := fun o => by simp [opW_size]; omega
      have hfin : ∀ (v' : Value) (w1 : World), w1.ownsRow w4.heap.size 48 1 v' (k + 1) (fv zs ++ [.float .f64 z]) → w1.ownsRow w4.heap.size 48 1 v' (k + 1) (fv (zs ++ [z])) := fun v' w1 h => by rw [fv_snoc]; exact h
      have hbel : ∀ (o : Obj) (w1 : World), (World.alloc (opW .add x y wr.drew) o).grownBy w1 u13.ownBlock → Below w4.heap.size w4 w1 := fun o w1 hg => (Below.alloc (opW_below .add x y hb.drew) (by simp only [opW_size]; exact hbs) _).grown hg (HZ _) (fun k hk => (hown.lt k hk).1)
      have HR : Hid ((zs ++ [z]).length = k + 1 ∧ ∀ j, j < k + 1 → NR (adF xs os j) ((zs ++ [z]).getD j 0)) := NR_snoc hrl.out hN.out HS.out
      clear hN HS
      go_wp2
      go_region_law (refine step_own rfl (.tmp 51) (.tmp 61) 22 rfl w4.heap.size 48 i0 (.float .f64 0) 1 8 Tryz.underlying22 hi hz0 hz1 hz2 rfl (by decide) _ _ _ rfl (hO _) _ 1 1 [.float .f64 z] rfl rfl (World.news_of_block (cs := #[.float .f64 z]) (t := 48) (fr := (0, 0)) (heap_alloc_new _ _)) (by simp [Value.oneCell']) (by unfold maxLen; omega) (by omega) (HZ _) ?_; intro v' w1 hown1 hgrow _)
      all_goals
        have hown2 := hfin _ _ hown1
        have hb2 := hbel _ _ hgrow
        clear hown1 hgrow hown hb hfin hbel p1
        go_wp2
        go_roundg (X - (k + 1))
        case measure => rw [HG.out]; omega
        case rel => exact ⟨k + 1, zs ++ [z], by omega, rfl, by go_num, HR.out.1, HR.out.2, hown2, hb2⟩
    · have ek : k = X := by omega
      subst ek
      have j1 : ¬ (k : Int) < (k : Int) := by omega
      have hown' : wr.ownsRow w4.heap.size 48 1 u13 zs.length (fv zs) := by rw [hrl.out]; exact hown
      have hG : GaveF w4 (adP xs os) u13 wr := by rw [adP_tab, EX.out]; exact GaveF.own hown' hrl.out hN.out hb
      clear hown' hown hN hrl
      obtain ⟨zo, zc, ys, e, l1, l2, l3, l4, l5⟩ := hG
      obtain ⟨L, eL⟩ : ∃ L, ys.length = L := ⟨_, rfl⟩
      have lL : L ≤ 48 := by rw [← eL, l1.1, adP_tab, tab_len, EX.out]; exact l48
      have cz := rfinite14 ys zo zc wr l2 l1.fw (by omega)
      have FZ : Hid (FW ys) := l1.fw
      rw [LN_all l1, eL] at cz
      rw [eL] at e
      subst e
      have EL : Hid (ys.length = L) := eL
      have Q1 : Hid (GRow wr zo ys) := l2
      have Q2 : Hid (ys.length ≤ zc) := l3
      have hb' := B4.trans (l5.mono B4.size)
      have hA := HA.out
      cases fa : (adP xs os).all fiO
      · rw [fa] at cz
        rw [fa, if_neg (by decide)] at hA
        subst hA
        clear fa HA l1 l2 l3 eL
        go_wp2_with (go_at_call 28; refine cz.mono ?_; rintro e w9 ⟨rfl, b9⟩)
        exact bodyPost_ret (v := .tuple #[.slice none 0 0, .int .i64 6]) (by simp [results, Tryz.results17, go_sem]) rfl (GaveE.none 6 (hb'.trans (b9.mono hb'.size)))
      · rw [fa] at cz
        rw [fa, if_pos rfl, ← LN_val l1 fa] at hA
        subst hA
        clear fa HA l1 l2 l3 eL
        go_wp2_with (go_at_call 28; refine cz.mono ?_; rintro e w9 ⟨rfl, b9⟩)
        exact bodyPost_ret (v := .tuple #[.slice zo L zc, .int .i64 0]) (by simp [results, Tryz.results17, go_sem]) rfl ⟨zo, zc, by rw [EL.out], Q1.out.below b9, FZ.out, Q2.out, l4.mono B4.size, hb'.trans (b9.mono hb'.size)⟩
end Go.Proofs.YtmbcmhncicbbjaaGreatDoor
