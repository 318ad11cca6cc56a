/- A case's box; great, left of the statements of layer 14; Pick of 12. -/
import Derived.Test.YtmbcmhncicbbjaaGreatDoorRf4
import Derived.Test.YtmbcmhncicbbjaaGreatDoorS2
namespace Go.Proofs.YtmbcmhncicbbjaaGreatDoor
open Go.RowKit

theorem addP_told {xs rs : List Nat} {os : List (Option Nat)} (h : LN os rs) (hf : fitN xs.length rs.length = 0) : ifFit xs.length rs.length (tab xs.length (adO xs rs)) = adP xs os := by
  have hl := fit_len hf
  unfold ifFit adP
  rw [if_pos hf]
  refine tab_congr (fun i hi => ?_)
  unfold adO
  rw [NR_nO (h.2 i (by rw [← h.1]; omega))]
theorem slA_len (n : Int) (ls ds : List Nat) (bn : Nat) (b : Nat → Option Nat) : (slA n ls ds bn b).1.length ≤ 48 := by
  unfold slA
  split
  · rename_i h
    obtain ⟨N, rfl, hN, _⟩ := fit_nat h
    split
    · simp
    · rw [tab_len]; omega
  · simp
set_option maxRecDepth 100000 in
set_option maxHeartbeats 2000000 in
theorem once_any (n : Int) (ls ds xs lf : List Nat) (lo dO xo fo : Option Addr) (lc dc xc fc : Nat) (w : World) (hL : GRow w lo ls) (hD : GRow w dO ds) (hX : GRow w xo xs) (hF : GRow w fo lf) (fL : FW ls) (fD : FW ds) (fX : FW xs) (fF : FW lf) (lX : xs.length ≤ 17592186044416) :
    Calls Tryz.prog 37 #[fcV n lo ls.length lc dO ds.length dc, .slice xo xs.length xc, .slice fo lf.length fc] w fun e w' => GaveE w (omA n ls ds xs lf) e w' := by
  have c1 : ∀ W, GRow W lo ls → GRow W dO ds → GRow W fo lf → Calls Tryz.prog 68 #[fcV n lo ls.length lc dO ds.length dc, .slice fo lf.length fc] W fun e w' => GaveLe W (sv14 n ls ds lf) e w' := fun W h1 h2 h3 => ssolve_any n ls ds lf lo dO fo lc dc fc (fun i => toO (lf.getD i 0)) W h1 h2 h3 fL fD (fun i hi => toO_NR (fF.at hi))
  have hlen : (sv14 n ls ds lf).1.length ≤ 48 := slA_len _ _ _ _ _
  have B0 := below_one w (.cells #[.int .i64 n, .slice lo ls.length lc, .slice dO ds.length dc] 36)
  unfold omA
  generalize sv14 n ls ds lf = A at *
  obtain ⟨os, er⟩ := A
  simp only at hlen ⊢
  by_cases he : er = 0
  case neg =>
    rw [if_neg he]
    have i1 : (er != 0) = true := by simp [he]
    clear he
    go_enter Tryz.func37, Tryz.ntmps37
    go_wp2_with (go_at_call 68; refine (c1 _ (hL.below B0) (hD.below B0) (hF.below B0)).mono ?_; rintro e w1 ⟨_, rfl, ro, rc, rs, rfl, g1, g2, g3, g4, b1⟩; have B1 := B0.trans (b1.mono B0.size))
    exact bodyPost_ret (v := .tuple #[.slice none 0 0, .int .i64 er]) (by simp [results, Tryz.results37, go_sem]) rfl (GaveE.none er B1)
  rw [if_pos he]
  subst he
  have ca := fun rs (ro : Option Addr) (rc : Nat) W h1 h2 (h3 : LN os rs) => vadd_any xs rs xo ro xc rc W h1 h2 fX h3.fw lX (by rw [h3.1]; omega)
  by_cases hf : fitN xs.length os.length = 0
  case neg =>
    rw [if_neg hf]
    have i1 : (fitN xs.length os.length != 0) = true := by simp [hf]
    have HE : Hid (∀ rs, LN os rs → fitN xs.length rs.length = fitN xs.length os.length) := fun rs h => by rw [h.1]
    clear hf
    obtain ⟨er, her⟩ : ∃ er, fitN xs.length os.length = er := ⟨_, rfl⟩
    rw [her] at i1 HE ⊢
    clear her
    go_enter Tryz.func37, Tryz.ntmps37
    go_wp2_with (first
      | (go_at_call 68; refine (c1 _ (hL.below B0) (hD.below B0) (hF.below B0)).mono ?_; rintro e w1 ⟨_, rfl, ro, rc, rs, rfl, g1, g2, g3, g4, b1⟩; have B1 := B0.trans (b1.mono B0.size))
      | (go_at_call 69; have ca2 := ca rs ro rc _ (hX.below B1) g2 g1; rw [HE.out rs g1] at ca2; refine ca2.mono ?_; rintro e w2 ⟨_, rfl, yo, yc, ys, rfl, k1, k2, k3, k4, b2⟩; have B2 := B1.trans (b2.mono B1.size)))
    exact bodyPost_ret (v := .tuple #[.slice none 0 0, .int .i64 er]) (by simp [results, Tryz.results37, go_sem]) rfl (GaveE.none er B2)
  rw [if_pos hf]
  have ca3 : ∀ rs (ro : Option Addr) (rc : Nat) W, GRow W xo xs → GRow W ro rs → LN os rs → Calls Tryz.prog 69 #[.slice xo xs.length xc, .slice ro rs.length rc] W fun e w' => ∃ v, e = .returned (.tuple #[v, .int .i64 0]) ∧ GaveF W (adP xs os) v w' := fun rs ro rc W h1 h2 h3 => by
    have h4 : fitN xs.length rs.length = 0 := by rw [h3.1]; exact hf
    have := ca rs ro rc W h1 h2 h3
    rw [addP_told h3 h4, h4] at this
    exact this
  have hl2 : (adP xs os).length ≤ 17592186044416 := by unfold adP; rw [tab_len]; exact lX
  generalize adP xs os = ps at *
  clear ca hf
  have cfi : ∀ W (yo : Option Addr) (yc : Nat) ys, GRow W yo ys → LN ps ys → Calls Tryz.prog 25 #[.slice (some ⟨W.heap.size, 0, none⟩) 1 1] (W.alloc (.cells #[.slice yo ys.length yc] 22)) fun e w' => e = .returned (.bool (ps.all fiO)) ∧ w' = W.alloc (.cells #[.slice yo ys.length yc] 22) := fun W yo yc ys h1 h2 => by
    rw [← LN_all h2]
    exact rfin1 W.heap.size yo yc ys _ (by go_simp) (h1.below (below_one W _)) h2.fw (by rw [h2.1]; omega)
  cases qa : ps.all fiO
  · rw [qa] at cfi
    have EE : (if false = true then (ps.map valO, (0 : Int)) else ([], 6)) = ([], 6) := rfl
    rw [EE]
    clear EE qa
    go_enter Tryz.func37, Tryz.ntmps37
    go_wp2_with (first
      | (go_at_call 68; refine (c1 _ (hL.below B0) (hD.below B0) (hF.below B0)).mono ?_; rintro e w1 ⟨_, rfl, ro, rc, rs, rfl, g1, g2, g3, g4, b1⟩; have B1 := B0.trans (b1.mono B0.size))
      | (go_at_call 69; refine (ca3 rs ro rc _ (hX.below B1) g2 g1).mono ?_; rintro e w2 ⟨_, rfl, yo, yc, ys, rfl, k1, k2, k3, k4, b2⟩; have B2 := B1.trans (b2.mono B1.size); have B3 := fun o => B2.alloc B2.size o)
      | (go_at_call 25; refine (cfi _ yo yc ys k2 k1).mono ?_; rintro e w' ⟨rfl, h'⟩; subst w'))
    exact bodyPost_ret (v := .tuple #[.slice none 0 0, .int .i64 6]) (by simp [results, Tryz.results37, go_sem]) rfl (GaveE.none 6 (B3 _))
  · rw [qa] at cfi
    have EE : (if true = true then (ps.map valO, (0 : Int)) else ([], 6)) = (ps.map valO, 0) := rfl
    rw [EE]
    have HV : Hid (∀ ys, LN ps ys → ys = ps.map valO) := fun ys h => LN_val h qa
    have HM : Hid ((ps.map valO).length = ps.length) := (show _ = _ by simp)
    clear EE qa
    generalize ps.map valO = vs at *
    go_enter Tryz.func37, Tryz.ntmps37
    go_wp2_with (first
      | (go_at_call 68; refine (c1 _ (hL.below B0) (hD.below B0) (hF.below B0)).mono ?_; rintro e w1 ⟨_, rfl, ro, rc, rs, rfl, g1, g2, g3, g4, b1⟩; have B1 := B0.trans (b1.mono B0.size))
      | (go_at_call 69; refine (ca3 rs ro rc _ (hX.below B1) g2 g1).mono ?_; rintro e w2 ⟨_, rfl, yo, yc, ys, rfl, k1, k2, k3, k4, b2⟩; have B2 := B1.trans (b2.mono B1.size); have B3 := fun o => B2.alloc B2.size o)
      | (go_at_call 25; refine (cfi _ yo yc ys k2 k1).mono ?_; rintro e w' ⟨rfl, h'⟩; subst w'))
    have k5 := k1.fw
    obtain rfl := HV.out ys k1
    exact bodyPost_ret (v := .tuple #[.slice yo ys.length yc, .int .i64 0]) (by simp [results, Tryz.results37, go_sem]) rfl ⟨yo, yc, rfl, k2.below (below_one _ _), k5, k3, k4.mono B1.size, B3 _⟩
end Go.Proofs.YtmbcmhncicbbjaaGreatDoor

namespace Go.Proofs.YtmbcmhncicbbjaaGreatDoor
open Go.RowKit

/-- Two lists and an error handed back. -/
def GaveT (w : World) (a : (List Nat × List Nat) × Int) (e : Ending) (w' : World) : Prop := ∃ xo xc fo fc, e = .returned (.tuple #[.slice xo a.1.1.length xc, .slice fo a.1.2.length fc, .int .i64 a.2]) ∧ GRow w' xo a.1.1 ∧ GRow w' fo a.1.2 ∧ FW a.1.1 ∧ FW a.1.2 ∧ a.1.1.length ≤ xc ∧ Frs w.heap.size xo ∧ Frs w.heap.size fo ∧ Below w.heap.size w w'
theorem fw_none : FW [] := fun x hx => by cases hx
theorem GaveT.none {w w' : World} (er : Int) (h : Below w.heap.size w w') : GaveT w (([], []), er) (.returned (.tuple #[.slice .none 0 0, .slice .none 0 0, .int .i64 er])) w' := ⟨.none, 0, .none, 0, rfl, Or.inl rfl, Or.inl rfl, fw_none, fw_none, Nat.le_refl _, Frs.none _, Frs.none _, h⟩
/-- A list handed back, of finite numbers: which they are. -/
theorem lfA_len (r c : Int) (ms xs bs : List Nat) : (lfA r c ms xs bs).1.length ≤ 48 := by
  unfold lfA
  split
  · rename_i h
    split
    · split
      · unfold fit14 at h
        simp only [Bool.and_eq_true] at h
        obtain ⟨R, C, rfl, rfl, hR, _⟩ := rightM_nat h.1.1
        unfold lfL
        rw [toL'_len, Int.toNat_natCast]; omega
      · simp
    · simp
  · simp
/-- What both boxes hold. -/
structure TwoB (w wr : World) (r c : Int) (ao : Option Addr) (mn cap : Nat) (n : Int) (lo : Option Addr) (ln lc : Nat) (dO : Option Addr) (dn dc : Nat) : Prop where
  mbox : B3 wr w.heap.size (.int .i64 r) (.int .i64 c) (.slice ao mn cap)
  fbox : B3 wr (w.heap.size + 1) (.int .i64 n) (.slice lo ln lc) (.slice dO dn dc)
  below : Below w.heap.size w wr
theorem TwoB.new (w : World) (r c : Int) (ao : Option Addr) (mn cap : Nat) (n : Int) (lo : Option Addr) (ln lc : Nat) (dO : Option Addr) (dn dc : Nat) : TwoB w ((w.alloc (.cells #[.int .i64 r, .int .i64 c, .slice ao mn cap] 24)).alloc (.cells #[.int .i64 n, .slice lo ln lc, .slice dO dn dc] 36)) r c ao mn cap n lo ln lc dO dn dc :=
  ⟨(B3.new w _ _ _ _).alloc _, B3.newAt (by go_simp) _ _ _ _, old_two (Below.refl _ _)⟩
theorem TwoB.later {w wr w1 : World} {r c : Int} {ao : Option Addr} {mn cap : Nat} {n : Int} {lo : Option Addr} {ln lc : Nat} {dO : Option Addr} {dn dc : Nat} (h : TwoB w wr r c ao mn cap n lo ln lc dO dn dc) (hb : Below wr.heap.size wr w1) : TwoB w w1 r c ao mn cap n lo ln lc dO dn dc :=
  ⟨h.mbox.below hb, h.fbox.below hb, h.below.trans (hb.mono h.below.size)⟩
set_option maxRecDepth 100000 in
set_option maxHeartbeats 2000000 in
theorem first_any (r c : Int) (ms : List Nat) (n : Int) (ls ds bs : List Nat) (ao lo dO bo : Option Addr) (cap lc dc bc : Nat) (w : World) (hT : TabW w) (hM : GRow w ao ms) (hL : GRow w lo ls) (hD : GRow w dO ds) (hB : GRow w bo bs) (fM : FW ms) (fL : FW ls) (fD : FW ds) (fB : FW bs) (lM : ms.length ≤ 1125899906842624) (lB : bs.length ≤ 1125899906842624) (hz : Shp ao cap) (hcap : ms.length ≤ cap) :
    Calls Tryz.prog 42 #[mxV r c ao ms.length cap, fcV n lo ls.length lc dO ds.length dc, .slice bo bs.length bc] w fun e w' => GaveT w (fi14 r c ms n ls ds bs) e w' := by
  have c1 : ∀ W, GRow W lo ls → GRow W dO ds → GRow W bo bs → Calls Tryz.prog 68 #[fcV n lo ls.length lc dO ds.length dc, .slice bo bs.length bc] W fun e w' => GaveLe W (sv14 n ls ds bs) e w' := fun W h1 h2 h3 => ssolve_any n ls ds bs lo dO bo lc dc bc (fun i => toO (bs.getD i 0)) W h1 h2 h3 fL fD (fun i hi => toO_NR (fB.at hi))
  have hlen : (sv14 n ls ds bs).1.length ≤ 48 := slA_len _ _ _ _ _
  have S0 := TwoB.new w r c ao ms.length cap n lo ls.length lc dO ds.length dc
  have B0 := S0.below
  unfold fi14
  generalize sv14 n ls ds bs = A at *
  obtain ⟨os, er⟩ := A
  simp only at hlen ⊢
  by_cases he : er = 0
  case neg =>
    rw [if_neg he]
    have i1 : (er != 0) = true := by simp [he]
    clear he
    go_enter Tryz.func42, Tryz.ntmps42
    go_wp2_with (go_at_call 68; refine (c1 _ (hL.below B0) (hD.below B0) (hB.below B0)).mono ?_; rintro e w1 ⟨_, rfl, ro, rc, rs, rfl, g1, g2, g3, g4, b1⟩; have B1 := B0.trans (b1.mono B0.size))
    exact bodyPost_ret (v := .tuple #[.slice none 0 0, .slice none 0 0, .int .i64 er]) (by simp [results, Tryz.results42, go_sem]) rfl (GaveT.none er B1)
  rw [if_pos he]
  subst he
  have cfi : ∀ W (yo : Option Addr) (yc : Nat) ys, GRow W yo ys → LN os ys → Calls Tryz.prog 25 #[.slice (some ⟨W.heap.size, 0, none⟩) 1 1] (W.alloc (.cells #[.slice yo ys.length yc] 22)) fun e w' => e = .returned (.bool (os.all fiO)) ∧ w' = W.alloc (.cells #[.slice yo ys.length yc] 22) := fun W yo yc ys h1 h2 => by
    rw [← LN_all h2]
    exact rfin1 W.heap.size yo yc ys _ (by go_simp) (h1.below (below_one W _)) h2.fw (by rw [h2.1]; omega)
  cases qa : os.all fiO
  · rw [qa] at cfi
    have EE : (if false = true then ((os.map valO, (lfA r c ms (os.map valO) bs).1), (lfA r c ms (os.map valO) bs).2) else (([], []), 6)) = (([], []), 6) := rfl
    rw [EE]
    clear EE qa
    go_enter Tryz.func42, Tryz.ntmps42
    go_wp2_with (first
      | (go_at_call 68; refine (c1 _ (hL.below B0) (hD.below B0) (hB.below B0)).mono ?_; rintro e w1 ⟨_, rfl, ro, rc, rs, rfl, g1, g2, g3, g4, b1⟩; have B1 := B0.trans (b1.mono B0.size); have B3 := fun o => B1.alloc B1.size o)
      | (go_at_call 25; refine (cfi _ ro rc rs g2 g1).mono ?_; rintro e w' ⟨rfl, h'⟩; subst w'))
    exact bodyPost_ret (v := .tuple #[.slice none 0 0, .slice none 0 0, .int .i64 6]) (by simp [results, Tryz.results42, go_sem]) rfl (GaveT.none 6 (B3 _))
  · rw [qa] at cfi
    have EE : (if true = true then ((os.map valO, (lfA r c ms (os.map valO) bs).1), (lfA r c ms (os.map valO) bs).2) else (([], []), 6)) = ((os.map valO, (lfA r c ms (os.map valO) bs).1), (lfA r c ms (os.map valO) bs).2) := rfl
    rw [EE]
    have HV : Hid (∀ ys, LN os ys → ys = os.map valO) := fun ys h => LN_val h qa
    have HM : (os.map valO).length ≤ 48 := by simpa using hlen
    clear EE qa
    generalize os.map valO = vs at *
    have cl := fun (xo : Option Addr) (xc : Nat) W h1 h2 h3 h4 h5 => left_any r c ms vs bs ao xo bo cap xc bc W h1 h2 h3 h4 fM h5 fB lM (by omega) lB hz hcap
    generalize lfA r c ms vs bs = LA at *
    obtain ⟨lf, er⟩ := LA
    simp only at cl ⊢
    go_enter Tryz.func42, Tryz.ntmps42
    go_wp2_with (first
      | (go_at_call 68; refine (c1 _ (hL.below B0) (hD.below B0) (hB.below B0)).mono ?_; rintro e w1 ⟨_, rfl, ro, rc, rs, rfl, g1, g2, g3, g4, b1⟩; have B1 := B0.trans (b1.mono B0.size); have S3 := fun o => (S0.later b1).later (below_one w1 o); have m0 := fun o => (S3 o).mbox.1; have m1 := fun o => (S3 o).mbox.2.1; have m2 := fun o => (S3 o).mbox.2.2.1)
      | (go_at_call 25; refine (cfi _ ro rc rs g2 g1).mono ?_; rintro e w' ⟨rfl, h'⟩; subst w'; have g5 := g1.fw; obtain rfl := HV.out rs g1)
      | (go_at_call 10; refine (cl _ _ _ (tabW_below hT (S3 _).below) (hM.below (S3 _).below) (g2.below (below_one _ _)) (hB.below (S3 _).below) g5).mono ?_; rintro e w4 ⟨zo, zc, rfl, k1, k2, k3, k4, b4⟩; have B5 := (S3 (.cells #[.slice ro rs.length rc] 22)).below))
    have hs := B1.size
    exact bodyPost_ret (v := .tuple #[.slice ro rs.length rc, .slice zo lf.length zc, .int .i64 er]) (by simp [results, Tryz.results42, go_sem]) rfl ⟨ro, rc, zo, zc, rfl, (g2.below (below_one _ _)).below b4, k1, g5, k2, g3, g4.mono B0.size, k4.mono B5.size, B5.trans (b4.mono B5.size)⟩
/-- What next answers. -/
def nt14 (r c : Int) (ms : List Nat) (n : Int) (ls ds bs xs lf : List Nat) : (List Nat × List Nat) × Int :=
  if (omA n ls ds xs lf).2 = 0 then (((omA n ls ds xs lf).1, (lfA r c ms (omA n ls ds xs lf).1 bs).1), (lfA r c ms (omA n ls ds xs lf).1 bs).2) else (([], []), (omA n ls ds xs lf).2)
theorem nx14_nt (r c : Int) (ms : List Nat) (n : Int) (ls ds bs : List Nat) (s : List Nat × List Nat) : nx14 r c ms n ls ds bs s = if (nt14 r c ms n ls ds bs s.1 s.2).2 = 0 then (if ltO (nv (nt14 r c ms n ls ds bs s.1 s.2).1.2) (nv s.2) then some (nt14 r c ms n ls ds bs s.1 s.2).1 else none) else none := by
  unfold nx14 nt14
  by_cases h : (omA n ls ds s.1 s.2).2 = 0
  · rw [if_pos h, if_pos h]
  · rw [if_neg h, if_neg h, if_neg h]
theorem omA_len (n : Int) (ls ds xs lf : List Nat) : (omA n ls ds xs lf).1.length ≤ xs.length := by
  unfold omA
  split
  · split
    · split
      · simp [adP, tab_len]
      · simp
    · simp
  · simp
set_option maxRecDepth 100000 in
set_option maxHeartbeats 2000000 in
theorem rnext14_any (r c : Int) (ms : List Nat) (n : Int) (ls ds bs xs lf : List Nat) (ao lo dO bo xo fo : Option Addr) (cap lc dc bc xc fc : Nat) (w : World) (hT : TabW w) (hM : GRow w ao ms) (hL : GRow w lo ls) (hD : GRow w dO ds) (hB : GRow w bo bs) (hX : GRow w xo xs) (hF : GRow w fo lf) (fM : FW ms) (fL : FW ls) (fD : FW ds) (fB : FW bs) (fX : FW xs) (fF : FW lf) (lM : ms.length ≤ 1125899906842624) (lB : bs.length ≤ 1125899906842624) (lX : xs.length ≤ 17592186044416) (hz : Shp ao cap) (hcap : ms.length ≤ cap) :
    Calls Tryz.prog 43 #[mxV r c ao ms.length cap, fcV n lo ls.length lc dO ds.length dc, .slice xo xs.length xc, .slice bo bs.length bc, .slice fo lf.length fc] w fun e w' => GaveT w (nt14 r c ms n ls ds bs xs lf) e w' := by
  have c1 := fun W h1 h2 h3 h4 => once_any n ls ds xs lf lo dO xo fo lc dc xc fc W h1 h2 h3 h4 fL fD fX fF lX
  have hlen : (omA n ls ds xs lf).1.length ≤ 17592186044416 := Nat.le_trans (omA_len n ls ds xs lf) lX
  have S0 := TwoB.new w r c ao ms.length cap n lo ls.length lc dO ds.length dc
  have B0 := S0.below
  unfold nt14
  generalize omA n ls ds xs lf = A at *
  obtain ⟨vs, er⟩ := A
  simp only at hlen c1 ⊢
  by_cases he : er = 0
  case neg =>
    rw [if_neg he]
    have i1 : (er != 0) = true := by simp [he]
    clear he
    go_enter Tryz.func43, Tryz.ntmps43
    go_wp2_with (go_at_call 37; refine (c1 _ (hL.below B0) (hD.below B0) (hX.below B0) (hF.below B0)).mono ?_; rintro e w1 ⟨zo, zc, rfl, k1, k2, k3, k4, b1⟩; have B1 := B0.trans (b1.mono B0.size))
    exact bodyPost_ret (v := .tuple #[.slice none 0 0, .slice none 0 0, .int .i64 er]) (by simp [results, Tryz.results43, go_sem]) rfl (GaveT.none er B1)
  rw [if_pos he]
  subst he
  have cl := fun (xo : Option Addr) (xc : Nat) W h1 h2 h3 h4 h5 => left_any r c ms vs bs ao xo bo cap xc bc W h1 h2 h3 h4 fM h5 fB lM (by omega) lB hz hcap
  generalize lfA r c ms vs bs = LA at *
  obtain ⟨lf', er⟩ := LA
  simp only at cl ⊢
  go_enter Tryz.func43, Tryz.ntmps43
  go_wp2_with (first
    | (go_at_call 37; refine (c1 _ (hL.below B0) (hD.below B0) (hX.below B0) (hF.below B0)).mono ?_; rintro e w1 ⟨zo, zc, rfl, k1, k2, k3, k4, b1⟩; have S1 := S0.later b1; obtain ⟨m0, m1, m2, _⟩ := id S1.mbox)
    | (go_at_call 10; refine (cl _ _ _ (tabW_below hT S1.below) (hM.below S1.below) k1 (hB.below S1.below) k2).mono ?_; rintro e w4 ⟨yo, yc, rfl, j1, j2, j3, j4, b4⟩; have B5 := S1.below))
  exact bodyPost_ret (v := .tuple #[.slice zo vs.length zc, .slice yo lf'.length yc, .int .i64 er]) (by simp [results, Tryz.results43, go_sem]) rfl ⟨zo, zc, yo, yc, rfl, k1.below b4, j1, k2, j2, k3, k4.mono B0.size, j4.mono B5.size, B5.trans (b4.mono B5.size)⟩
end Go.Proofs.YtmbcmhncicbbjaaGreatDoor

namespace Go.Proofs.YtmbcmhncicbbjaaGreatDoor
open Go.RowKit

/-- A list, a number of steps and an error handed back. -/
def GaveU (w : World) (a : List Nat × Nat × Int) (e : Ending) (w' : World) : Prop := ∃ xo xc, e = .returned (.tuple #[.slice xo a.1.length xc, .int .i64 a.2.1, .int .i64 a.2.2]) ∧ GRow w' xo a.1 ∧ FW a.1 ∧ a.1.length ≤ xc ∧ Frs w.heap.size xo ∧ Below w.heap.size w w'
theorem GaveU.none {w w' : World} (er : Int) (h : Below w.heap.size w w') : GaveU w ([], 0, er) (.returned (.tuple #[.slice .none 0 0, .int .i64 0, .int .i64 er])) w' := ⟨.none, 0, rfl, Or.inl rfl, fw_none, Nat.le_refl _, Frs.none _, h⟩
theorem fi14_len (r c : Int) (ms : List Nat) (n : Int) (ls ds bs : List Nat) : (fi14 r c ms n ls ds bs).1.1.length ≤ 48 ∧ (fi14 r c ms n ls ds bs).1.2.length ≤ 48 := by
  have h1 : (sv14 n ls ds bs).1.length ≤ 48 := slA_len _ _ _ _ _
  unfold fi14
  split
  · split
    · exact ⟨by simpa using h1, lfA_len _ _ _ _ _⟩
    · simp
  · simp
theorem nt14_len (r c : Int) (ms : List Nat) (n : Int) (ls ds bs xs lf : List Nat) (h : xs.length ≤ 48) : (nt14 r c ms n ls ds bs xs lf).1.1.length ≤ 48 ∧ (nt14 r c ms n ls ds bs xs lf).1.2.length ≤ 48 := by
  unfold nt14
  split
  · exact ⟨Nat.le_trans (omA_len _ _ _ _ _) h, lfA_len _ _ _ _ _⟩
  · simp
/-- The two lists of the loop. -/
structure UnS (w wr : World) (xs lf : List Nat) (xo fo : Option Addr) (xc : Nat) : Prop where
  rx : GRow wr xo xs
  rl : GRow wr fo lf
  fx : FW xs
  fl : FW lf
  cx : xs.length ≤ xc
  nx : xs.length ≤ 48
  nl : lf.length ≤ 48
  hx : Frs w.heap.size xo
theorem UnS.later {w wr w1 : World} {xs lf : List Nat} {xo fo : Option Addr} {xc : Nat} (h : UnS w wr xs lf xo fo xc) (hb : Below wr.heap.size wr w1) : UnS w w1 xs lf xo fo xc := ⟨h.rx.below hb, h.rl.below hb, h.fx, h.fl, h.cx, h.nx, h.nl, h.hx⟩
/-- The steps that are left. -/
def Go14 (nx : List Nat × List Nat → Option (List Nat × List Nat)) (most : Nat) (s0 : List Nat × List Nat) (k : Nat) (s : List Nat × List Nat) : Prop := run14 nx most s0 = ((run14 nx (most - k) s).1, (run14 nx (most - k) s).2 + k)
theorem Go14.none {nx : List Nat × List Nat → Option (List Nat × List Nat)} {most k : Nat} {s0 s : List Nat × List Nat} (h : Go14 nx most s0 k s) (hn : nx s = .none) : run14 nx most s0 = (s, k) := by
  unfold Go14 at h
  rw [run14_none hn] at h
  rw [h, Nat.zero_add]
theorem Go14.last {nx : List Nat × List Nat → Option (List Nat × List Nat)} {most : Nat} {s0 s : List Nat × List Nat} (h : Go14 nx most s0 most s) : run14 nx most s0 = (s, most) := by
  unfold Go14 at h
  rw [Nat.sub_self] at h
  rw [h]
  simp [run14]
theorem Go14.some {nx : List Nat × List Nat → Option (List Nat × List Nat)} {most k : Nat} {s0 s t : List Nat × List Nat} (h : Go14 nx most s0 k s) (hk : k < most) (hn : nx s = .some t) : Go14 nx most s0 (k + 1) t := by
  unfold Go14 at h ⊢
  rw [show most - k = (most - (k + 1)) + 1 by omega, run14_some hn] at h
  rw [h]
  simp only [Prod.mk.injEq, true_and]
  omega
set_option maxRecDepth 100000 in
set_option maxHeartbeats 4000000 in
theorem until_any (r c : Int) (ms : List Nat) (n : Int) (ls ds bs : List Nat) (most : Nat) (ao lo dO bo : Option Addr) (cap lc dc bc : Nat) (w : World) (hm : most ≤ 64) (hT : TabW w) (hM : GRow w ao ms) (hL : GRow w lo ls) (hD : GRow w dO ds) (hB : GRow w bo bs) (fM : FW ms) (fL : FW ls) (fD : FW ds) (fB : FW bs) (lM : ms.length ≤ 1125899906842624) (lB : bs.length ≤ 1125899906842624) (hz : Shp ao cap) (hcap : ms.length ≤ cap) :
    Calls Tryz.prog 19 #[mxV r c ao ms.length cap, fcV n lo ls.length lc dO ds.length dc, .slice bo bs.length bc, .int .i64 most] w fun e w' => GaveU w (unA r c ms n ls ds bs most) e w' := by
  have S0 := TwoB.new w r c ao ms.length cap n lo ls.length lc dO ds.length dc
  have B0 := S0.below
  have c1 := fun W => mright_any r c ao ms.length cap W
  have c2 := fun W => rff_any r c n ao lo dO ms.length cap ls.length lc ds.length dc W
  have j1 : ¬ (most : Int) < 0 := by omega
  have j2 : ¬ (64 : Int) < (most : Int) := by omega
  cases q1 : rightM r c ms.length
  · have eA : unA r c ms n ls ds bs most = ([], 0, 4) := by
      have : unE r c ms n ls ds bs = 4 := by unfold unE fits14; rw [q1]; rfl
      unfold unA; rw [this]; rfl
    rw [q1] at c1
    rw [eA]
    go_enter Tryz.func19, Tryz.ntmps19
    go_wp2_with (go_at_call 41; refine (c1 _).mono ?_; rintro e w1 ⟨rfl, b1⟩; have S1 := S0.later b1)
    exact bodyPost_ret (v := .tuple #[.slice none 0 0, .int .i64 0, .int .i64 4]) (by simp [results, Tryz.results19, go_sem]) rfl (GaveU.none 4 S1.below)
  rw [q1] at c1
  cases q2 : ff14 r c n ls.length ds.length
  · have eA : unA r c ms n ls ds bs most = ([], 0, 4) := by
      have : unE r c ms n ls ds bs = 4 := by
        unfold unE fits14
        rw [show (rightF n ls.length ds.length && decide (r = n) && decide (c = n)) = false from q2, Bool.and_false]
        rfl
      unfold unA; rw [this]; rfl
    rw [q2] at c2
    rw [eA]
    clear q1
    go_enter Tryz.func19, Tryz.ntmps19
    go_wp2_with (first
      | (go_at_call 41; refine (c1 _).mono ?_; rintro e w1 ⟨rfl, b1⟩; have S1 := S0.later b1; obtain ⟨m0, m1, m2, _⟩ := id S1.mbox; obtain ⟨f0, f1, f2, _⟩ := id S1.fbox)
      | (go_at_call 36; refine (c2 _).mono ?_; rintro e w2 ⟨rfl, b2⟩; have S2 := S1.later b2))
    exact bodyPost_ret (v := .tuple #[.slice none 0 0, .int .i64 0, .int .i64 4]) (by simp [results, Tryz.results19, go_sem]) rfl (GaveU.none 4 S2.below)
  rw [q2] at c2
  by_cases q3 : (bs.length : Int) = r
  case neg =>
    have eA : unA r c ms n ls ds bs most = ([], 0, 4) := by
      have : unE r c ms n ls ds bs = 4 := by
        unfold unE fits14
        rw [decide_eq_false q3, Bool.and_false]
        rfl
      unfold unA; rw [this]; rfl
    have i3 : ((bs.length : Int) != r) = true := by simp [q3]
    rw [eA]
    clear q1 q2 q3
    go_enter Tryz.func19, Tryz.ntmps19
    go_wp2_with (first
      | (go_at_call 41; refine (c1 _).mono ?_; rintro e w1 ⟨rfl, b1⟩; have S1 := S0.later b1; obtain ⟨m0, m1, m2, _⟩ := id S1.mbox; obtain ⟨f0, f1, f2, _⟩ := id S1.fbox)
      | (go_at_call 36; refine (c2 _).mono ?_; rintro e w2 ⟨rfl, b2⟩; have S2 := S1.later b2; obtain ⟨m0, m1, m2, _⟩ := id S2.mbox))
    exact bodyPost_ret (v := .tuple #[.slice none 0 0, .int .i64 0, .int .i64 4]) (by simp [results, Tryz.results19, go_sem]) rfl (GaveU.none 4 S2.below)
  have i3 : ((bs.length : Int) != r) = false := by simp [q3]
  have qf : fits14 r c ms.length n ls.length ds.length bs.length = true := by
    unfold fits14
    rw [q1, show (rightF n ls.length ds.length && decide (r = n) && decide (c = n)) = true from q2, decide_eq_true q3]
    rfl
  have cfi : ∀ W, Below w.heap.size w W → Calls Tryz.prog 25 #[.slice (some ⟨W.heap.size, 0, none⟩) 2 2] (W.alloc (.cells #[.slice ao ms.length cap, .slice bo bs.length bc] 22)) fun e w' => e = .returned (.bool (ms.all finB && bs.all finB)) ∧ w' = W.alloc (.cells #[.slice ao ms.length cap, .slice bo bs.length bc] 22) := fun W h =>
    rfin2 W.heap.size ao bo cap bc ms bs _ (by go_simp) (by go_simp) (hM.below (h.alloc h.size _)) (hB.below (h.alloc h.size _)) fM fB lM lB
  cases q4 : (ms.all finB && bs.all finB)
  · have eA : unA r c ms n ls ds bs most = ([], 0, 5) := by
      have : unE r c ms n ls ds bs = 5 := by unfold unE; rw [qf, q4]; rfl
      unfold unA; rw [this]; rfl
    rw [q4] at cfi
    rw [eA]
    clear q1 q2 q3 q4 qf
    go_enter Tryz.func19, Tryz.ntmps19
    go_wp2_with (first
      | (go_at_call 41; refine (c1 _).mono ?_; rintro e w1 ⟨rfl, b1⟩; have S1 := S0.later b1; obtain ⟨m0, m1, m2, _⟩ := id S1.mbox; obtain ⟨f0, f1, f2, _⟩ := id S1.fbox)
      | (go_at_call 36; refine (c2 _).mono ?_; rintro e w2 ⟨rfl, b2⟩; have S2 := S1.later b2; obtain ⟨m0, m1, m2, _⟩ := id S2.mbox)
      | (go_at_call 25; refine (cfi _ S2.below).mono ?_; rintro e w' ⟨rfl, h'⟩; subst w'; have S3 := fun o => S2.later (below_one w2 o)))
    exact bodyPost_ret (v := .tuple #[.slice none 0 0, .int .i64 0, .int .i64 5]) (by simp [results, Tryz.results19, go_sem]) rfl (GaveU.none 5 (S3 _).below)
  rw [q4] at cfi
  have eU : unE r c ms n ls ds bs = (fi14 r c ms n ls ds bs).2 := by unfold unE; rw [qf, q4]; rfl
  have c3 := fun W h0 h1 h2 h3 h4 => first_any r c ms n ls ds bs ao lo dO bo cap lc dc bc W h0 h1 h2 h3 h4 fM fL fD fB lM lB hz hcap
  have HA : Hid (∀ xs lf k, (fi14 r c ms n ls ds bs).2 = 0 → run14 (nx14 r c ms n ls ds bs) most (fi14 r c ms n ls ds bs).1 = ((xs, lf), k) → unA r c ms n ls ds bs most = (xs, k, 0)) := fun xs lf k h1 h2 => by
    unfold unA unR
    rw [eU, if_pos h1, h2]
  have HZ : Hid ((fi14 r c ms n ls ds bs).2 ≠ 0 → unA r c ms n ls ds bs most = ([], 0, (fi14 r c ms n ls ds bs).2)) := fun h => by
    unfold unA
    rw [eU, if_neg h]
  have hlen := fi14_len r c ms n ls ds bs
  have cn := fun xs lf (xo fo : Option Addr) (xc fc : Nat) W h0 h1 h2 h3 h4 h5 h6 f1 f2 lX => rnext14_any r c ms n ls ds bs xs lf ao lo dO bo xo fo cap lc dc bc xc fc W h0 h1 h2 h3 h4 h5 h6 fM fL fD fB f1 f2 lM lB lX hz hcap
  have hntl := fun xs lf h => nt14_len r c ms n ls ds bs xs lf h
  have hnx := fun xs lf => nx14_nt r c ms n ls ds bs (xs, lf)
  generalize unA r c ms n ls ds bs most = UA at *
  generalize nx14 r c ms n ls ds bs = nx at *
  generalize nt14 r c ms n ls ds bs = nt at *
  generalize fi14 r c ms n ls ds bs = F at *
  obtain ⟨⟨x0, l0⟩, er⟩ := F
  simp only at HA HZ hlen c3 hnx
  clear q1 q2 q3 q4 qf eU
  by_cases he : er = 0
  case neg =>
    have HZ := HZ.out he
    subst HZ
    have i4 : (er != 0) = true := by simp [he]
    clear he HA
    go_enter Tryz.func19, Tryz.ntmps19
    go_wp2_with (first
      | (go_at_call 41; refine (c1 _).mono ?_; rintro e w1 ⟨rfl, b1⟩; have S1 := S0.later b1; obtain ⟨m0, m1, m2, _⟩ := id S1.mbox; obtain ⟨f0, f1, f2, _⟩ := id S1.fbox)
      | (go_at_call 36; refine (c2 _).mono ?_; rintro e w2 ⟨rfl, b2⟩; have S2 := S1.later b2; obtain ⟨m0, m1, m2, _⟩ := id S2.mbox)
      | (go_at_call 25; refine (cfi _ S2.below).mono ?_; rintro e w' ⟨rfl, h'⟩; subst w'; have S3 := S2.later (below_one w2 (.cells #[.slice ao ms.length cap, .slice bo bs.length bc] 22)); obtain ⟨m0, m1, m2, _⟩ := id S3.mbox; obtain ⟨f0, f1, f2, _⟩ := id S3.fbox)
      | (go_at_call 42; refine (c3 _ (tabW_below hT S3.below) (hM.below S3.below) (hL.below S3.below) (hD.below S3.below) (hB.below S3.below)).mono ?_; rintro e w4 ⟨xo, xc, fo, fc, rfl, k1, k2, k3, k4, k5, k6, k7, b4⟩; have S4 := S3.later b4))
    exact bodyPost_ret (v := .tuple #[.slice none 0 0, .int .i64 0, .int .i64 er]) (by simp [results, Tryz.results19, go_sem]) rfl (GaveU.none er S4.below)
  subst he
  clear HZ
  go_enter Tryz.func19, Tryz.ntmps19
  go_upto_region 11 with (first
    | (go_at_call 41; refine (c1 _).mono ?_; rintro e w1 ⟨rfl, b1⟩; have S1 := S0.later b1; obtain ⟨m0, m1, m2, _⟩ := id S1.mbox; obtain ⟨f0, f1, f2, _⟩ := id S1.fbox)
    | (go_at_call 36; refine (c2 _).mono ?_; rintro e w2 ⟨rfl, b2⟩; have S2 := S1.later b2; obtain ⟨m0, m1, m2, _⟩ := id S2.mbox)
    | (go_at_call 25; refine (cfi _ S2.below).mono ?_; rintro e w' ⟨rfl, h'⟩; subst w'; have S3 := S2.later (below_one w2 (.cells #[.slice ao ms.length cap, .slice bo bs.length bc] 22)); obtain ⟨m0, m1, m2, _⟩ := id S3.mbox; obtain ⟨f0, f1, f2, _⟩ := id S3.fbox)
    | (go_at_call 42; refine (c3 _ (tabW_below hT S3.below) (hM.below S3.below) (hL.below S3.below) (hD.below S3.below) (hB.below S3.below)).mono ?_; rintro e w4 ⟨xo, xc, fo, fc, rfl, k1, k2, k3, k4, k5, k6, k7, b4⟩; have S4 := S3.later b4))
  have U4 : UnS w w4 x0 l0 xo fo xc := ⟨k1, k2, k3, k4, k5, hlen.1, hlen.2, k6.mono S3.below.size⟩
  clear m0 m1 m2 f0 f1 f2 S3 S2 S1 S0 B0 b1 b2 b4 k1 k2 k3 k4 k5 k6 k7 c1 c2 c3 cfi
  go_loopg [11, 12, 61] most (fun gg s11 s12 s61 wr => ∃ (k : Nat) (xs lf : List Nat) (xo fo : Option Addr) (xc fc : Nat), k ≤ most ∧ gg = most - k ∧ s11 = .slice xo xs.length xc ∧ s12 = .slice fo lf.length fc ∧ s61 = .int .i64 k ∧ Hid (Go14 nx most (x0, l0) k (xs, lf)) ∧ UnS w wr xs lf xo fo xc ∧ TwoB w wr r c ao ms.length cap n lo ls.length lc dO ds.length dc)
  case atStart => exact ⟨0, x0, l0, xo, fo, xc, fc, Nat.zero_le _, rfl, rfl, rfl, rfl, (show Go14 nx most (x0, l0) 0 (x0, l0) from rfl), U4, S4⟩
  case round =>
    clear U4 S4
    obtain ⟨k, xs, lf, yo, go, yc, gc, hk, hg, rfl, rfl, rfl, hG, U, S⟩ := hrel
    have HG : Hid (gk = most - k) := hg
    clear hg
    by_cases hlt : k < most
    · have i5 : (k : Int) < (most : Int) := by omega
      obtain ⟨m0, m1, m2, _⟩ := id S.mbox
      obtain ⟨f0, f1, f2, _⟩ := id S.fbox
      have cx := cn xs lf yo go yc gc wr (tabW_below hT S.below) (hM.below S.below) (hL.below S.below) (hD.below S.below) (hB.below S.below) U.rx U.rl U.fx U.fl (by have := U.nx; omega)
      have hx := hnx xs lf
      have hl := hntl xs lf U.nx
      generalize nt xs lf = T at *
      obtain ⟨⟨y1, l1⟩, er⟩ := T
      simp only at hx hl cx
      clear cn hnx hntl
      have cv1 := fun (o : Option Addr) (q : Nat) W h1 h2 => vnorm_any l1 o q W h1 h2 (by omega)
      have cv2 := fun W h1 => vnorm_any lf go gc W h1 U.fl (by have := U.nl; omega)
      by_cases he : er = 0
      case neg =>
        rw [if_neg he] at hx
        have E := HA.out xs lf k (by first | rfl | trivial) (hG.out.none hx)
        subst E
        have i6 : (er != 0) = true := by simp [he]
        clear HA hG he hx cv1 cv2 hl
        go_wp2_with (first
        | (go_at_call 43; refine cx.mono ?_; rintro e w5 ⟨zo, zc, vo, vc, rfl, k1, k2, k3, k4, k5, k6, k7, b5⟩; have S5 := S.later b5; have U5 := U.later b5))
        have hu1 := U5.rx
        have hb := S5.below
        exact bodyPost_ret (v := .tuple #[.slice yo xs.length yc, .int .i64 k, .int .i64 0]) (by simp [results, Tryz.results19, go_sem]) rfl ⟨yo, yc, rfl, hu1, U.fx, U.cx, U.hx, hb⟩
      subst he
      rw [if_pos rfl] at hx
      cases ql : ltO (nv l1) (nv lf)
      · rw [ql] at hx
        have E := HA.out xs lf k (by first | rfl | trivial) (hG.out.none hx)
        subst E
        have HQ : Hid (∀ a b, NR (nv l1) a → NR (nv lf) b → (FloatKind.f64.format.order a b == some .lt) = false) := fun a b h1 h2 => by rw [NR_lt h1 h2, ql]
        clear HA hG hx ql hl
        go_wp2_with (first
        | (go_at_call 43; refine cx.mono ?_; rintro e w5 ⟨zo, zc, vo, vc, rfl, k1, k2, k3, k4, k5, k6, k7, b5⟩; have S5 := S.later b5; have U5 := U.later b5)
        | (go_at_call 44; have q7 := n6; refine (cv2 _ (U5.rl.below b6)).mono ?_; rintro e w7 ⟨a7, rfl, n7, b7⟩; have hq := HQ.out _ _ n6 n7)
        | (go_at_call 44; refine (cv1 _ _ _ k2 k4).mono ?_; rintro e w6 ⟨a6, rfl, n6, b6⟩))
        have S7 := (S5.later b6).later b7
        have hu1 := ((U5.later b6).later b7).rx
        have hb := S7.below
        exact bodyPost_ret (v := .tuple #[.slice yo xs.length yc, .int .i64 k, .int .i64 0]) (by simp [results, Tryz.results19, go_sem]) rfl ⟨yo, yc, rfl, hu1, U.fx, U.cx, U.hx, hb⟩
      · rw [ql] at hx
        have G1 := hG.out.some hlt hx
        have HQ : Hid (∀ a b, NR (nv l1) a → NR (nv lf) b → (FloatKind.f64.format.order a b == some .lt) = true) := fun a b h1 h2 => by rw [NR_lt h1 h2, ql]
        clear hG hx ql
        go_wp2_with (first
        | (go_at_call 43; refine cx.mono ?_; rintro e w5 ⟨zo, zc, vo, vc, rfl, k1, k2, k3, k4, k5, k6, k7, b5⟩; have S5 := S.later b5; have U5 := U.later b5)
        | (go_at_call 44; have q7 := n6; refine (cv2 _ (U5.rl.below b6)).mono ?_; rintro e w7 ⟨a7, rfl, n7, b7⟩; have hq := HQ.out _ _ n6 n7)
        | (go_at_call 44; refine (cv1 _ _ _ k2 k4).mono ?_; rintro e w6 ⟨a6, rfl, n6, b6⟩))
        have S7 := (S5.later b6).later b7
        have U7 : UnS w w7 y1 l1 zo vo zc := ⟨(k1.below b6).below b7, (k2.below b6).below b7, k3, k4, k5, hl.1, hl.2, k6.mono S.below.size⟩
        go_roundg (most - (k + 1))
        case measure => rw [HG.out]; omega
        case rel => exact ⟨k + 1, y1, l1, zo, vo, zc, vc, by omega, rfl, rfl, rfl, by go_num, G1, U7, S7⟩
    · have ek : k = most := by omega
      subst ek
      have i5 : ¬ (k : Int) < (k : Int) := by omega
      have E := HA.out xs lf k (by first | rfl | trivial) hG.out.last
      subst E
      clear HA hG
      have hu1 := U.rx
      have hu2 := U.fx
      have hu3 := U.cx
      have hu4 := U.hx
      have hb := S.below
      go_wp2
      exact bodyPost_ret (v := .tuple #[.slice yo xs.length yc, .int .i64 k, .int .i64 0]) (by simp [results, Tryz.results19, go_sem]) rfl ⟨yo, yc, rfl, hu1, hu2, hu3, hu4, hb⟩
end Go.Proofs.YtmbcmhncicbbjaaGreatDoor

namespace Go.Proofs.YtmbcmhncicbbjaaGreatDoor
open Go.RowKit

def lkB (x y : Nat) : Bool := FloatKind.f64.format.order x y == some .eq
set_option maxHeartbeats 1000000 in
theorem like_yes (x y : Nat) (h : lkB x y = true) (w : World) : Calls Tryz.prog 46 #[.float .f64 x, .float .f64 y] w fun e w' => e = .returned (.bool true) ∧ w' = w := by
  have h : (FloatKind.f64.format.order x y == some .eq) = true := h
  go_enter Tryz.func46, Tryz.ntmps46
  go_wp2
  go_ret
  exact ⟨rfl, rfl⟩
set_option maxHeartbeats 1000000 in
theorem likes_yes (n : Nat) (xs ys : List Nat) (lx : xs.length = n) (ly : ys.length = n) (ao bo : Option Addr) (cap cap2 : Nat) (w : World) (hr : GRow w ao xs) (hs : GRow w bo ys) (hn : n ≤ 1125899906842624) (h : ∀ j, j < n → lkB (xs.getD j 0) (ys.getD j 0) = true) :
    Calls Tryz.prog 22 #[.slice ao n cap, .slice bo n cap2] w fun e w' => e = .returned (.bool true) ∧ Below w.heap.size w w' := by
  have HLX : Hid (xs.length = n) := lx
  have HLY : Hid (ys.length = n) := ly
  clear lx ly
  go_enter Tryz.func22, Tryz.ntmps22
  go_wp2
  go_loopg [5] n (fun g i wr => ∃ k : Nat, k ≤ n ∧ g = n - k ∧ i = .int .i64 k ∧ Hid (Below w.heap.size w wr))
  case atStart => exact ⟨0, Nat.zero_le _, rfl, rfl, Below.refl _ _⟩
  case round =>
    obtain ⟨k, hk, hg, rfl, hB⟩ := hrel
    have HG : Hid (gk = n - k) := hg
    clear hg
    by_cases hlt : k < n
    · have l1 : k < xs.length := by rw [HLX.out]; exact hlt
      have l2 : k < ys.length := by rw [HLY.out]; exact hlt
      rcases hr.below hB.out with h' | ⟨b, off, rfl, hc⟩
      · omega
      rcases hs.below hB.out with h' | ⟨b2, off2, rfl, hd⟩
      · omega
      have g1 := hc k l1
      have g2 := hd k l2
      have cs := like_yes _ _ (h k hlt)
      have i1 : (k : Int) < (n : Int) := by omega
      have HD := hB.out.drew
      clear h
      generalize xs.getD k 0 = x at *
      generalize ys.getD k 0 = y at *
      clear hc hd l1 l2
      go_wp2
      go_quiet ((go_at_call 46; exact Calls.quiet_of_same (cs _)))
      go_wp2
      go_roundg (n - (k + 1))
      case measure => rw [HG.out]; omega
      case rel => exact ⟨k + 1, by omega, rfl, by go_num, (show Below _ _ _ from below_drewN hB.out _)⟩
    · have ek : k = n := by omega
      have i1 : ¬ (k : Int) < (n : Int) := by omega
      clear h
      go_wp2
      go_ret
      exact ⟨rfl, hB.out⟩
theorem aw14_l : lfA 2 2 [4616189618054758400, 4607182418800017408, 4607182418800017408, 4613937818241073152] [4607182418800017408, 4607182418800017408] [4618441417868443648, 4616189618054758400] = ([4607182418800017408, 0], 0) := by kernel_rfl
theorem aw14_k : lfA 1 2 [4607182418800017408, 4607182418800017408] [4877398396442247168, 4607182418800017408] [4877398396442247168] = ([13830554455654793216], 0) := by kernel_rfl
theorem aw14_u : unA 2 2 [4616189618054758400, 4607182418800017408, 4607182418800017408, 4613937818241073152] 2 [4598175219545276416] [4616189618054758400, 4613374868287651840] [4617315517961601024, 4616189618054758400] 8 = ([4607182418800017408, 4607182418800017408], 0, 0) := by kernel_rfl
theorem aw14_left (ao xo bo : Option Addr) (w : World) (hT : TabW w) (h1 : GRow w ao [4616189618054758400, 4607182418800017408, 4607182418800017408, 4613937818241073152]) (h2 : GRow w xo [4607182418800017408, 4607182418800017408]) (h3 : GRow w bo [4618441417868443648, 4616189618054758400]) :
    Calls Tryz.prog 10 #[mxV 2 2 ao 4 4, .slice xo 2 2, .slice bo 2 2] w fun e w' => ∃ zo zc, e = .returned (.tuple #[.slice zo 2 zc, .int .i64 0]) ∧ GRow w' zo [4607182418800017408, 0] ∧ Below w.heap.size w w' := by
  have hz : Shp ao 4 := by
    rcases h1 with h | ⟨b, off, rfl, _⟩
    · cases h
    · exact Or.inr (Or.inl ⟨b, off, rfl⟩)
  have h := left_any 2 2 [4616189618054758400, 4607182418800017408, 4607182418800017408, 4613937818241073152] [4607182418800017408, 4607182418800017408] [4618441417868443648, 4616189618054758400] ao xo bo 4 2 2 w hT h1 h2 h3 (fw_lit _ (by decide)) (fw_lit _ (by decide)) (fw_lit _ (by decide)) (by decide) (by decide) (by decide) hz (by decide)
  rw [aw14_l] at h
  refine Calls.mono h ?_
  rintro e w' ⟨zo, zc, rfl, k1, _, _, _, k6⟩
  exact ⟨zo, zc, rfl, k1, k6⟩
theorem aw14_left2 (ao xo bo : Option Addr) (w : World) (hT : TabW w) (h1 : GRow w ao [4607182418800017408, 4607182418800017408]) (h2 : GRow w xo [4877398396442247168, 4607182418800017408]) (h3 : GRow w bo [4877398396442247168]) :
    Calls Tryz.prog 10 #[mxV 1 2 ao 2 2, .slice xo 2 2, .slice bo 1 1] w fun e w' => ∃ zo zc, e = .returned (.tuple #[.slice zo 1 zc, .int .i64 0]) ∧ GRow w' zo [13830554455654793216] ∧ Below w.heap.size w w' := by
  have hz : Shp ao 2 := by
    rcases h1 with h | ⟨b, off, rfl, _⟩
    · cases h
    · exact Or.inr (Or.inl ⟨b, off, rfl⟩)
  have h := left_any 1 2 [4607182418800017408, 4607182418800017408] [4877398396442247168, 4607182418800017408] [4877398396442247168] ao xo bo 2 2 1 w hT h1 h2 h3 (fw_lit _ (by decide)) (fw_lit _ (by decide)) (fw_lit _ (by decide)) (by decide) (by decide) (by decide) hz (by decide)
  rw [aw14_k] at h
  refine Calls.mono h ?_
  rintro e w' ⟨zo, zc, rfl, k1, _, _, _, k6⟩
  exact ⟨zo, zc, rfl, k1, k6⟩
theorem aw14_until (ao lo dO bo : Option Addr) (w : World) (hT : TabW w) (h1 : GRow w ao [4616189618054758400, 4607182418800017408, 4607182418800017408, 4613937818241073152]) (h2 : GRow w lo [4598175219545276416]) (h3 : GRow w dO [4616189618054758400, 4613374868287651840]) (h4 : GRow w bo [4617315517961601024, 4616189618054758400]) :
    Calls Tryz.prog 19 #[mxV 2 2 ao 4 4, fcV 2 lo 1 1 dO 2 2, .slice bo 2 2, .int .i64 8] w fun e w' => ∃ b off zc, e = .returned (.tuple #[.slice (some ⟨b, off, none⟩) 2 zc, .int .i64 0, .int .i64 0]) ∧ w'.cell? ⟨b, off, none⟩ = some (.float .f64 4607182418800017408) ∧ Below w.heap.size w w' := by
  have hz : Shp ao 4 := by
    rcases h1 with h | ⟨b, off, rfl, _⟩
    · cases h
    · exact Or.inr (Or.inl ⟨b, off, rfl⟩)
  have h := until_any 2 2 [4616189618054758400, 4607182418800017408, 4607182418800017408, 4613937818241073152] 2 [4598175219545276416] [4616189618054758400, 4613374868287651840] [4617315517961601024, 4616189618054758400] 8 ao lo dO bo 4 1 2 2 w (by decide) hT h1 h2 h3 h4 (fw_lit _ (by decide)) (fw_lit _ (by decide)) (fw_lit _ (by decide)) (fw_lit _ (by decide)) (by decide) (by decide) hz (by decide)
  rw [aw14_u] at h
  refine Calls.mono h ?_
  rintro e w' ⟨zo, zc, rfl, k1, _, _, _, k6⟩
  rcases k1 with h | ⟨b, off, rfl, hc⟩
  · cases h
  · exact ⟨b, off, zc, rfl, hc 0 (by decide), k6⟩
set_option maxHeartbeats 1000000 in
theorem two14_any (w : World) : Calls Tryz.prog 21 #[] w fun e w' => ∃ ao lo dO, e = .returned (.tuple #[mxV 2 2 ao 4 4, fcV 2 lo 1 1 dO 2 2]) ∧ GRow w' ao [4616189618054758400, 4607182418800017408, 4607182418800017408, 4613937818241073152] ∧ GRow w' lo [4598175219545276416] ∧ GRow w' dO [4616189618054758400, 4613374868287651840] ∧ Below w.heap.size w w' := by
  go_enter Tryz.func21, Tryz.ntmps21
  go_wp2
  exact bodyPost_ret (v := .tuple #[mxV 2 2 (some ⟨w.heap.size + 1 + 1, 0, none⟩) 4 4, fcV 2 (some ⟨w.heap.size + 1 + 1 + 1, 0, none⟩) 1 1 (some ⟨w.heap.size + 1 + 1 + 1 + 1, 0, none⟩) 2 2]) (by simp [results, Tryz.results21, go_sem]) rfl ⟨_, _, _, rfl, row_on (row_on (row_at (by go_simp) rfl) _) _, row_on (row_at (by go_simp) rfl) _, row_at (by go_simp) rfl, old_one (old_two (old_two (Below.refl _ _)))⟩
set_option maxRecDepth 100000 in
set_option maxHeartbeats 2000000 in
theorem awake14 (w : World) (hT : TabW w) : Calls Tryz.prog 6 #[] w fun e w' => e = .returned (.bool true) ∧ Below w.heap.size w w' := by
  go_enter Tryz.func6, Tryz.ntmps6
  go_upto_region 2 with (go_at_call 21; refine (two14_any _).mono ?_; rintro e w1 ⟨ao, lo, dO, rfl, g1, g2, g3, b1⟩)
  have S2 := TwoB.new w1 2 2 ao 4 4 2 lo 1 1 dO 2 2
  generalize (w1.alloc (.cells #[.int .i64 2, .int .i64 2, .slice ao 4 4] 24)).alloc (.cells #[.int .i64 2, .slice lo 1 1, .slice dO 2 2] 36) = WX2 at *
  have B2 := b1.trans (S2.below.mono b1.size)
  have T2 := tabW_below hT B2
  replace g1 := g1.below S2.below
  replace g2 := g2.below S2.below
  replace g3 := g3.below S2.below
  obtain ⟨m0, m1, m2, _⟩ := id S2.mbox
  go_upto_region 3 with (go_at_call 10; refine (aw14_left _ _ _ _ (tabW_alloc (tabW_alloc T2 _) _) (row_on (row_on g1 _) _) (row_on (row_at rfl rfl) _) (row_at (by go_simp) rfl)).mono ?_; rintro e w3 ⟨zo, zc, rfl, g4, b3⟩)
  have S3 := S2.later (old_two b3)
  have B3 := B2.trans ((old_two b3).mono B2.size)
  have T3 := tabW_below hT B3
  replace g1 := g1.below (old_two b3)
  replace g2 := g2.below (old_two b3)
  replace g3 := g3.below (old_two b3)
  clear S2 m0 m1 m2 b3 T2 B2
  obtain ⟨m0, m1, m2, _⟩ := id S3.mbox
  obtain ⟨f0, f1, f2, _⟩ := id S3.fbox
  go_upto_region 4 with (go_at_call 19; refine (aw14_until _ _ _ _ _ (tabW_alloc T3 _) (row_on g1 _) (row_on g2 _) (row_on g3 _) (row_at rfl rfl)).mono ?_; rintro e w4 ⟨ub, uoff, uc, rfl, g5, b4⟩)
  have B4 := B3.trans ((old_one b4).mono B3.size)
  have T4 := tabW_below hT B4
  replace g4 := g4.below (old_one b4)
  clear S3 m0 m1 m2 f0 f1 f2 b4 T3 B3 g1 g2 g3
  go_upto_region 5 with (go_at_call 10; refine (aw14_left2 _ _ _ _ (tabW_alloc (tabW_alloc (tabW_alloc T4 _) _) _) (row_on (row_on (row_at rfl rfl) _) _) (row_on (row_at (by go_simp) rfl) _) (row_at (by go_simp) rfl)).mono ?_; rintro e w5 ⟨ko, kc, rfl, g6, b5⟩)
  have b5' := old_one (old_two b5)
  have B5 := B4.trans (b5'.mono B4.size)
  replace g4 := g4.below b5'
  have hu := World.block_lt_of_cell? w4 _ g5
  replace g5 := (b5'.cell (p := ⟨ub, uoff, none⟩) hu).trans g5
  clear b5 b5' B4 T4
  have cl1 := fun bo w' h1 h2 => likes_yes 2 [4607182418800017408, 0] [4607182418800017408, 0] rfl rfl zo bo zc 2 w' h1 h2 (by decide) (fun j hj => by rcases (show j = 0 ∨ j = 1 by omega) with rfl | rfl <;> decide)
  have cl2 := fun bo w' h1 h2 => likes_yes 1 [13830554455654793216] [13830554455654793216] rfl rfl ko bo kc 1 w' h1 h2 (by decide) (fun j hj => by rcases (show j = 0 by omega) with rfl; decide)
  have o1 : (FloatKind.f64.format.order 4607182418800017408 4607092346807469998 == some .gt) = true := by kernel_rfl
  have o2 : (FloatKind.f64.format.order 4607182418800017408 4607227454796291113 == some .lt) = true := by kernel_rfl
  have hu2 := World.block_lt_of_cell? w5 _ g5
  go_wp2_with (first
    | (go_at_call 22; have q7 := b6; refine (cl2 _ _ (row_on (g6.below b7) _) (row_at rfl rfl)).mono ?_; rintro e w7 ⟨rfl, b8⟩)
    | (go_at_call 22; refine (cl1 _ _ (row_on g4 _) (row_at rfl rfl)).mono ?_; rintro e w6 ⟨rfl, b6⟩; have b7 := old_one b6; have g7 := (b7.cell (p := ⟨ub, uoff, none⟩) hu2).trans g5))
  go_ret
  have B7 := B5.trans (b7.mono B5.size)
  exact ⟨rfl, B7.trans ((old_one b8).mono B7.size)⟩
end Go.Proofs.YtmbcmhncicbbjaaGreatDoor

namespace Go.Proofs.YtmbcmhncicbbjaaGreatDoor
open Go.RowKit

/-- A case as a value. -/
abbrev csV (r c : Int) (ao : Option Addr) (mn cap : Nat) (n : Int) (lo : Option Addr) (ln lc : Nat) (dO : Option Addr) (dn dc : Nat) (xo : Option Addr) (xn xc : Nat) (bo : Option Addr) (bn bc : Nat) : Value := .agg #[.int .i64 r, .int .i64 c, .slice ao mn cap, .int .i64 n, .slice lo ln lc, .slice dO dn dc, .slice xo xn xc, .slice bo bn bc]
/-- A box that holds a case. -/
structure C8 (w : World) (p : Nat) (r c : Int) (ao : Option Addr) (mn cap : Nat) (n : Int) (lo : Option Addr) (ln lc : Nat) (dO : Option Addr) (dn dc : Nat) (x b : Value) : Prop where
  c0 : w.cell? ⟨p, 0, none⟩ = some (.int .i64 r)
  c1 : w.cell? ⟨p, 1, none⟩ = some (.int .i64 c)
  c2 : w.cell? ⟨p, 2, none⟩ = some (.slice ao mn cap)
  c3 : w.cell? ⟨p, 3, none⟩ = some (.int .i64 n)
  c4 : w.cell? ⟨p, 4, none⟩ = some (.slice lo ln lc)
  c5 : w.cell? ⟨p, 5, none⟩ = some (.slice dO dn dc)
  c6 : w.cell? ⟨p, 6, none⟩ = some x
  c7 : w.cell? ⟨p, 7, none⟩ = some b
theorem C8.below {w w1 : World} {p : Nat} {r c : Int} {ao : Option Addr} {mn cap : Nat} {n : Int} {lo : Option Addr} {ln lc : Nat} {dO : Option Addr} {dn dc : Nat} {x b : Value} (h : C8 w p r c ao mn cap n lo ln lc dO dn dc x b) (hb : Below w.heap.size w w1) : C8 w1 p r c ao mn cap n lo ln lc dO dn dc x b := by
  have hp := World.block_lt_of_cell? w _ h.c0
  have k := fun o => hb.cell (p := ⟨p, o, none⟩) hp
  exact ⟨(k 0).trans h.c0, (k 1).trans h.c1, (k 2).trans h.c2, (k 3).trans h.c3, (k 4).trans h.c4, (k 5).trans h.c5, (k 6).trans h.c6, (k 7).trans h.c7⟩
theorem C8.new (w : World) (r c : Int) (ao : Option Addr) (mn cap : Nat) (n : Int) (lo : Option Addr) (ln lc : Nat) (dO : Option Addr) (dn dc : Nat) (xo : Option Addr) (xn xc : Nat) (bo : Option Addr) (bn bc : Nat) (t : TypeId) : C8 (w.alloc (.cells #[.int .i64 r, .int .i64 c, .slice ao mn cap, .int .i64 n, .slice lo ln lc, .slice dO dn dc, .slice xo xn xc, .slice bo bn bc] t)) w.heap.size r c ao mn cap n lo ln lc dO dn dc (.slice xo xn xc) (.slice bo bn bc) := by
  constructor <;> go_simp
set_option maxHeartbeats 1000000 in
theorem great14 (r c : Int) (ao : Option Addr) (mn cap : Nat) (w : World) : Calls Tryz.prog 7 #[mxV r c ao mn cap] w fun e w' => e = .returned (.bool (decide (100 < mn))) ∧ Below w.heap.size w w' := by
  have B0 := below_one w
  by_cases h : 100 < mn
  · have i1 : (100 : Int) < (mn : Int) := by omega
    rw [decide_eq_true h]
    go_enter Tryz.func7, Tryz.ntmps7
    go_wp2
    go_ret
    exact ⟨rfl, B0 _⟩
  · have i1 : ¬ (100 : Int) < (mn : Int) := by omega
    rw [decide_eq_false h]
    go_enter Tryz.func7, Tryz.ntmps7
    go_wp2
    go_ret
    exact ⟨rfl, B0 _⟩
end Go.Proofs.YtmbcmhncicbbjaaGreatDoor
