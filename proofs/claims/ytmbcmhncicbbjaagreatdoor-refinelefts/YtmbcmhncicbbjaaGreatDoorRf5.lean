/- What onceMore, first and next answer. -/
import Derived.Test.YtmbcmhncicbbjaaGreatDoorRf4
import Derived.Test.YtmbcmhncicbbjaaGreatDoorS2
namespace Go.Proofs.YtmbcmhncicbbjaaGreatDoor
open Go.RowKit

theorem addP_told {xs rs : List Nat} {os : List (Option Nat)} (h : LN os rs) (hf : fitN xs.length rs.length = 0) : ifFit xs.length rs.length (tab xs.length (adO xs rs)) = adP xs os := by
  have hl := fit_len hf
  unfold ifFit adP
  rw [if_pos hf]
  refine tab_congr (fun i hi => ?_)
  unfold adO
  rw [NR_nO (h.2 i (by rw [← h.1]; omega))]
theorem slA_len (n : Int) (ls ds : List Nat) (bn : Nat) (b : Nat → Option Nat) : (slA n ls ds bn b).1.length ≤ 48 := by
  unfold slA
  split
  · rename_i h
    obtain ⟨N, rfl, hN, _⟩ := fit_nat h
    split
    · simp
    · rw [tab_len]; omega
  · simp
set_option maxRecDepth 100000 in
set_option maxHeartbeats 2000000 in
theorem once_any (n : Int) (ls ds xs lf : List Nat) (lo dO xo fo : Option Addr) (lc dc xc fc : Nat) (w : World) (hL : GRow w lo ls) (hD : GRow w dO ds) (hX : GRow w xo xs) (hF : GRow w fo lf) (fL : FW ls) (fD : FW ds) (fX : FW xs) (fF : FW lf) (lX : xs.length ≤ 17592186044416) :
    Calls Tryz.prog 37 #[fcV n lo ls.length lc dO ds.length dc, .slice xo xs.length xc, .slice fo lf.length fc] w fun e w' => GaveE w (omA n ls ds xs lf) e w' := by
  have c1 : ∀ W, GRow W lo ls → GRow W dO ds → GRow W fo lf → Calls Tryz.prog 68 #[fcV n lo ls.length lc dO ds.length dc, .slice fo lf.length fc] W fun e w' => GaveLe W (sv14 n ls ds lf) e w' := fun W h1 h2 h3 => ssolve_any n ls ds lf lo dO fo lc dc fc (fun i => toO (lf.getD i 0)) W h1 h2 h3 fL fD (fun i hi => toO_NR (fF.at hi))
  have hlen : (sv14 n ls ds lf).1.length ≤ 48 := slA_len _ _ _ _ _
  have B0 := below_one w (.cells #[.int .i64 n, .slice lo ls.length lc, .slice dO ds.length dc] 36)
  unfold omA
  generalize sv14 n ls ds lf = A at *
  obtain ⟨os, er⟩ := A
  simp only at hlen ⊢
  by_cases he : er = 0
  case neg =>
    rw [if_neg he]
    have i1 : (er != 0) = true := by simp [he]
    clear he
    go_enter Tryz.func37, Tryz.ntmps37
    go_wp2_with (go_at_call 68; refine (c1 _ (hL.below B0) (hD.below B0) (hF.below B0)).mono ?_; rintro e w1 ⟨_, rfl, ro, rc, rs, rfl, g1, g2, g3, g4, b1⟩; have B1 := B0.trans (b1.mono B0.size))
    exact bodyPost_ret (v := .tuple #[.slice none 0 0, .int .i64 er]) (by simp [results, Tryz.results37, go_sem]) rfl (GaveE.none er B1)
  rw [if_pos he]
  subst he
  have ca := fun rs (ro : Option Addr) (rc : Nat) W h1 h2 (h3 : LN os rs) => vadd_any xs rs xo ro xc rc W h1 h2 fX h3.fw lX (by rw [h3.1]; omega)
  by_cases hf : fitN xs.length os.length = 0
  case neg =>
    rw [if_neg hf]
    have i1 : (fitN xs.length os.length != 0) = true := by simp [hf]
    have HE : Hid (∀ rs, LN os rs → fitN xs.length rs.length = fitN xs.length os.length) := fun rs h => by rw [h.1]
    clear hf
    obtain ⟨er, her⟩ : ∃ er, fitN xs.length os.length = er := ⟨_, rfl⟩
    rw [her] at i1 HE ⊢
    clear her
    go_enter Tryz.func37, Tryz.ntmps37
    go_wp2_with (first
      | (go_at_call 68; refine (c1 _ (hL.below B0) (hD.below B0) (hF.below B0)).mono ?_; rintro e w1 ⟨_, rfl, ro, rc, rs, rfl, g1, g2, g3, g4, b1⟩; have B1 := B0.trans (b1.mono B0.size))
      | (go_at_call 69; have ca2 := ca rs ro rc _ (hX.below B1) g2 g1; rw [HE.out rs g1] at ca2; refine ca2.mono ?_; rintro e w2 ⟨_, rfl, yo, yc, ys, rfl, k1, k2, k3, k4, b2⟩; have B2 := B1.trans (b2.mono B1.size)))
    exact bodyPost_ret (v := .tuple #[.slice none 0 0, .int .i64 er]) (by simp [results, Tryz.results37, go_sem]) rfl (GaveE.none er B2)
  rw [if_pos hf]
  have ca3 : ∀ rs (ro : Option Addr) (rc : Nat) W, GRow W xo xs → GRow W ro rs → LN os rs → Calls Tryz.prog 69 #[.slice xo xs.length xc, .slice ro rs.length rc] W fun e w' => ∃ v, e = .returned (.tuple #[v, .int .i64 0]) ∧ GaveF W (adP xs os) v w' := fun rs ro rc W h1 h2 h3 => by
    have h4 : fitN xs.length rs.length = 0 := by rw [h3.1]; exact hf
    have := ca rs ro rc W h1 h2 h3
    rw [addP_told h3 h4, h4] at this
    exact this
  have hl2 : (adP xs os).length ≤ 17592186044416 := by unfold adP; rw [tab_len]; exact lX
  generalize adP xs os = ps at *
  clear ca hf
  have cfi : ∀ W (yo : Option Addr) (yc : Nat) ys, GRow W yo ys → LN ps ys → Calls Tryz.prog 25 #[.slice (some ⟨W.heap.size, 0, none⟩) 1 1] (W.alloc (.cells #[.slice yo ys.length yc] 22)) fun e w' => e = .returned (.bool (ps.all fiO)) ∧ w' = W.alloc (.cells #[.slice yo ys.length yc] 22) := fun W yo yc ys h1 h2 => by
    rw [← LN_all h2]
    exact rfin1 W.heap.size yo yc ys _ (by go_simp) (h1.below (below_one W _)) h2.fw (by rw [h2.1]; omega)
  cases qa : ps.all fiO
  · rw [qa] at cfi
    have EE : (if false = true then (ps.map valO, (0 : Int)) else ([], 6)) = ([], 6) := rfl
    rw [EE]
    clear EE qa
    go_enter Tryz.func37, Tryz.ntmps37
    go_wp2_with (first
      | (go_at_call 68; refine (c1 _ (hL.below B0) (hD.below B0) (hF.below B0)).mono ?_; rintro e w1 ⟨_, rfl, ro, rc, rs, rfl, g1, g2, g3, g4, b1⟩; have B1 := B0.trans (b1.mono B0.size))
      | (go_at_call 69; refine (ca3 rs ro rc _ (hX.below B1) g2 g1).mono ?_; rintro e w2 ⟨_, rfl, yo, yc, ys, rfl, k1, k2, k3, k4, b2⟩; have B2 := B1.trans (b2.mono B1.size); have B3 := fun o => B2.alloc B2.size o)
      | (go_at_call 25; refine (cfi _ yo yc ys k2 k1).mono ?_; rintro e w' ⟨rfl, h'⟩; subst w'))
    exact bodyPost_ret (v := .tuple #[.slice none 0 0, .int .i64 6]) (by simp [results, Tryz.results37, go_sem]) rfl (GaveE.none 6 (B3 _))
  · rw [qa] at cfi
    have EE : (if true = true then (ps.map valO, (0 : Int)) else ([], 6)) = (ps.map valO, 0) := rfl
    rw [EE]
    have HV : Hid (∀ ys, LN ps ys → ys = ps.map valO) := fun ys h => LN_val h qa
    have HM : Hid ((ps.map valO).length = ps.length) := (show _ = _ by simp)
    clear EE qa
    generalize ps.map valO = vs at *
    go_enter Tryz.func37, Tryz.ntmps37
    go_wp2_with (first
      | (go_at_call 68; refine (c1 _ (hL.below B0) (hD.below B0) (hF.below B0)).mono ?_; rintro e w1 ⟨_, rfl, ro, rc, rs, rfl, g1, g2, g3, g4, b1⟩; have B1 := B0.trans (b1.mono B0.size))
      | (go_at_call 69; refine (ca3 rs ro rc _ (hX.below B1) g2 g1).mono ?_; rintro e w2 ⟨_, rfl, yo, yc, ys, rfl, k1, k2, k3, k4, b2⟩; have B2 := B1.trans (b2.mono B1.size); have B3 := fun o => B2.alloc B2.size o)
      | (go_at_call 25; refine (cfi _ yo yc ys k2 k1).mono ?_; rintro e w' ⟨rfl, h'⟩; subst w'))
    have k5 := k1.fw
    obtain rfl := HV.out ys k1
    exact bodyPost_ret (v := .tuple #[.slice yo ys.length yc, .int .i64 0]) (by simp [results, Tryz.results37, go_sem]) rfl ⟨yo, yc, rfl, k2.below (below_one _ _), k5, k3, k4.mono B1.size, B3 _⟩
end Go.Proofs.YtmbcmhncicbbjaaGreatDoor
