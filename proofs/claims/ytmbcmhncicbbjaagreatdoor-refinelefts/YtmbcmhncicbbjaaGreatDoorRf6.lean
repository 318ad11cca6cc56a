/- What first and next answer. -/
import Derived.Test.YtmbcmhncicbbjaaGreatDoorRf5
namespace Go.Proofs.YtmbcmhncicbbjaaGreatDoor
open Go.RowKit

/-- Two lists and an error handed back. -/
def GaveT (w : World) (a : (List Nat × List Nat) × Int) (e : Ending) (w' : World) : Prop := ∃ xo xc fo fc, e = .returned (.tuple #[.slice xo a.1.1.length xc, .slice fo a.1.2.length fc, .int .i64 a.2]) ∧ GRow w' xo a.1.1 ∧ GRow w' fo a.1.2 ∧ FW a.1.1 ∧ FW a.1.2 ∧ a.1.1.length ≤ xc ∧ Frs w.heap.size xo ∧ Frs w.heap.size fo ∧ Below w.heap.size w w'
theorem fw_none : FW [] := fun x hx => by cases hx
theorem GaveT.none {w w' : World} (er : Int) (h : Below w.heap.size w w') : GaveT w (([], []), er) (.returned (.tuple #[.slice .none 0 0, .slice .none 0 0, .int .i64 er])) w' := ⟨.none, 0, .none, 0, rfl, Or.inl rfl, Or.inl rfl, fw_none, fw_none, Nat.le_refl _, Frs.none _, Frs.none _, h⟩
/-- A list handed back, of finite numbers: which they are. -/
theorem lfA_len (r c : Int) (ms xs bs : List Nat) : (lfA r c ms xs bs).1.length ≤ 48 := by
  unfold lfA
  split
  · rename_i h
    split
    · split
      · unfold fit14 at h
        simp only [Bool.and_eq_true] at h
        obtain ⟨R, C, rfl, rfl, hR, _⟩ := rightM_nat h.1.1
        unfold lfL
        rw [toL'_len, Int.toNat_natCast]; omega
      · simp
    · simp
  · simp
/-- What both boxes hold. -/
structure TwoB (w wr : World) (r c : Int) (ao : Option Addr) (mn cap : Nat) (n : Int) (lo : Option Addr) (ln lc : Nat) (dO : Option Addr) (dn dc : Nat) : Prop where
  mbox : B3 wr w.heap.size (.int .i64 r) (.int .i64 c) (.slice ao mn cap)
  fbox : B3 wr (w.heap.size + 1) (.int .i64 n) (.slice lo ln lc) (.slice dO dn dc)
  below : Below w.heap.size w wr
theorem TwoB.new (w : World) (r c : Int) (ao : Option Addr) (mn cap : Nat) (n : Int) (lo : Option Addr) (ln lc : Nat) (dO : Option Addr) (dn dc : Nat) : TwoB w ((w.alloc (.cells #[.int .i64 r, .int .i64 c, .slice ao mn cap] 24)).alloc (.cells #[.int .i64 n, .slice lo ln lc, .slice dO dn dc] 36)) r c ao mn cap n lo ln lc dO dn dc :=
  ⟨(B3.new w _ _ _ _).alloc _, B3.newAt (by go_simp) _ _ _ _, old_two (Below.refl _ _)⟩
theorem TwoB.later {w wr w1 : World} {r c : Int} {ao : Option Addr} {mn cap : Nat} {n : Int} {lo : Option Addr} {ln lc : Nat} {dO : Option Addr} {dn dc : Nat} (h : TwoB w wr r c ao mn cap n lo ln lc dO dn dc) (hb : Below wr.heap.size wr w1) : TwoB w w1 r c ao mn cap n lo ln lc dO dn dc :=
  ⟨h.mbox.below hb, h.fbox.below hb, h.below.trans (hb.mono h.below.size)⟩
set_option maxRecDepth 100000 in
set_option maxHeartbeats 2000000 in
theorem first_any (r c : Int) (ms : List Nat) (n : Int) (ls ds bs : List Nat) (ao lo dO bo : Option Addr) (cap lc dc bc : Nat) (w : World) (hT : TabW w) (hM : GRow w ao ms) (hL : GRow w lo ls) (hD : GRow w dO ds) (hB : GRow w bo bs) (fM : FW ms) (fL : FW ls) (fD : FW ds) (fB : FW bs) (lM : ms.length ≤ 1125899906842624) (lB : bs.length ≤ 1125899906842624) (hz : Shp ao cap) (hcap : ms.length ≤ cap) :
    Calls Tryz.prog 42 #[mxV r c ao ms.length cap, fcV n lo ls.length lc dO ds.length dc, .slice bo bs.length bc] w fun e w' => GaveT w (fi14 r c ms n ls ds bs) e w' := by
  have c1 : ∀ W, GRow W lo ls → GRow W dO ds → GRow W bo bs → Calls Tryz.prog 68 #[fcV n lo ls.length lc dO ds.length dc, .slice bo bs.length bc] W fun e w' => GaveLe W (sv14 n ls ds bs) e w' := fun W h1 h2 h3 => ssolve_any n ls ds bs lo dO bo lc dc bc (fun i => toO (bs.getD i 0)) W h1 h2 h3 fL fD (fun i hi => toO_NR (fB.at hi))
  have hlen : (sv14 n ls ds bs).1.length ≤ 48 := slA_len _ _ _ _ _
  have S0 := TwoB.new w r c ao ms.length cap n lo ls.length lc dO ds.length dc
  have B0 := S0.below
  unfold fi14
  generalize sv14 n ls ds bs = A at *
  obtain ⟨os, er⟩ := A
  simp only at hlen ⊢
  by_cases he : er = 0
  case neg =>
    rw [if_neg he]
    have i1 : (er != 0) = true := by simp [he]
    clear he
    go_enter Tryz.func42, Tryz.ntmps42
    go_wp2_with (go_at_call 68; refine (c1 _ (hL.below B0) (hD.below B0) (hB.below B0)).mono ?_; rintro e w1 ⟨_, rfl, ro, rc, rs, rfl, g1, g2, g3, g4, b1⟩; have B1 := B0.trans (b1.mono B0.size))
    exact bodyPost_ret (v := .tuple #[.slice none 0 0, .slice none 0 0, .int .i64 er]) (by simp [results, Tryz.results42, go_sem]) rfl (GaveT.none er B1)
  rw [if_pos he]
  subst he
  have cfi : ∀ W (yo : Option Addr) (yc : Nat) ys, GRow W yo ys → LN os ys → Calls Tryz.prog 25 #[.slice (some ⟨W.heap.size, 0, none⟩) 1 1] (W.alloc (.cells #[.slice yo ys.length yc] 22)) fun e w' => e = .returned (.bool (os.all fiO)) ∧ w' = W.alloc (.cells #[.slice yo ys.length yc] 22) := fun W yo yc ys h1 h2 => by
    rw [← LN_all h2]
    exact rfin1 W.heap.size yo yc ys _ (by go_simp) (h1.below (below_one W _)) h2.fw (by rw [h2.1]; omega)
  cases qa : os.all fiO
  · rw [qa] at cfi
    have EE : (if false = true then ((os.map valO, (lfA r c ms (os.map valO) bs).1), (lfA r c ms (os.map valO) bs).2) else (([], []), 6)) = (([], []), 6) := rfl
    rw [EE]
    clear EE qa
    go_enter Tryz.func42, Tryz.ntmps42
    go_wp2_with (first
      | (go_at_call 68; refine (c1 _ (hL.below B0) (hD.below B0) (hB.below B0)).mono ?_; rintro e w1 ⟨_, rfl, ro, rc, rs, rfl, g1, g2, g3, g4, b1⟩; have B1 := B0.trans (b1.mono B0.size); have B3 := fun o => B1.alloc B1.size o)
      | (go_at_call 25; refine (cfi _ ro rc rs g2 g1).mono ?_; rintro e w' ⟨rfl, h'⟩; subst w'))
    exact bodyPost_ret (v := .tuple #[.slice none 0 0, .slice none 0 0, .int .i64 6]) (by simp [results, Tryz.results42, go_sem]) rfl (GaveT.none 6 (B3 _))
  · rw [qa] at cfi
    have EE : (if true = true then ((os.map valO, (lfA r c ms (os.map valO) bs).1), (lfA r c ms (os.map valO) bs).2) else (([], []), 6)) = ((os.map valO, (lfA r c ms (os.map valO) bs).1), (lfA r c ms (os.map valO) bs).2) := rfl
    rw [EE]
    have HV : Hid (∀ ys, LN os ys → ys = os.map valO) := fun ys h => LN_val h qa
    have HM : (os.map valO).length ≤ 48 := by simpa using hlen
    clear EE qa
    generalize os.map valO = vs at *
    have cl := fun (xo : Option Addr) (xc : Nat) W h1 h2 h3 h4 h5 => left_any r c ms vs bs ao xo bo cap xc bc W h1 h2 h3 h4 fM h5 fB lM (by omega) lB hz hcap
    generalize lfA r c ms vs bs = LA at *
    obtain ⟨lf, er⟩ := LA
    simp only at cl ⊢
    go_enter Tryz.func42, Tryz.ntmps42
    go_wp2_with (first
      | (go_at_call 68; refine (c1 _ (hL.below B0) (hD.below B0) (hB.below B0)).mono ?_; rintro e w1 ⟨_, rfl, ro, rc, rs, rfl, g1, g2, g3, g4, b1⟩; have B1 := B0.trans (b1.mono B0.size); have S3 := fun o => (S0.later b1).later (below_one w1 o); have m0 := fun o => (S3 o).mbox.1; have m1 := fun o => (S3 o).mbox.2.1; have m2 := fun o => (S3 o).mbox.2.2.1)
      | (go_at_call 25; refine (cfi _ ro rc rs g2 g1).mono ?_; rintro e w' ⟨rfl, h'⟩; subst w'; have g5 := g1.fw; obtain rfl := HV.out rs g1)
      | (go_at_call 10; refine (cl _ _ _ (tabW_below hT (S3 _).below) (hM.below (S3 _).below) (g2.below (below_one _ _)) (hB.below (S3 _).below) g5).mono ?_; rintro e w4 ⟨zo, zc, rfl, k1, k2, k3, k4, b4⟩; have B5 := (S3 (.cells #[.slice ro rs.length rc] 22)).below))
    have hs := B1.size
    exact bodyPost_ret (v := .tuple #[.slice ro rs.length rc, .slice zo lf.length zc, .int .i64 er]) (by simp [results, Tryz.results42, go_sem]) rfl ⟨ro, rc, zo, zc, rfl, (g2.below (below_one _ _)).below b4, k1, g5, k2, g3, g4.mono B0.size, k4.mono B5.size, B5.trans (b4.mono B5.size)⟩
/-- What next answers. -/
def nt14 (r c : Int) (ms : List Nat) (n : Int) (ls ds bs xs lf : List Nat) : (List Nat × List Nat) × Int :=
  if (omA n ls ds xs lf).2 = 0 then (((omA n ls ds xs lf).1, (lfA r c ms (omA n ls ds xs lf).1 bs).1), (lfA r c ms (omA n ls ds xs lf).1 bs).2) else (([], []), (omA n ls ds xs lf).2)
theorem nx14_nt (r c : Int) (ms : List Nat) (n : Int) (ls ds bs : List Nat) (s : List Nat × List Nat) : nx14 r c ms n ls ds bs s = if (nt14 r c ms n ls ds bs s.1 s.2).2 = 0 then (if ltO (nv (nt14 r c ms n ls ds bs s.1 s.2).1.2) (nv s.2) then some (nt14 r c ms n ls ds bs s.1 s.2).1 else none) else none := by
  unfold nx14 nt14
  by_cases h : (omA n ls ds s.1 s.2).2 = 0
  · rw [if_pos h, if_pos h]
  · rw [if_neg h, if_neg h, if_neg h]
theorem omA_len (n : Int) (ls ds xs lf : List Nat) : (omA n ls ds xs lf).1.length ≤ xs.length := by
  unfold omA
  split
  · split
    · split
      · simp [adP, tab_len]
      · simp
    · simp
  · simp
set_option maxRecDepth 100000 in
set_option maxHeartbeats 2000000 in
theorem rnext14_any (r c : Int) (ms : List Nat) (n : Int) (ls ds bs xs lf : List Nat) (ao lo dO bo xo fo : Option Addr) (cap lc dc bc xc fc : Nat) (w : World) (hT : TabW w) (hM : GRow w ao ms) (hL : GRow w lo ls) (hD : GRow w dO ds) (hB : GRow w bo bs) (hX : GRow w xo xs) (hF : GRow w fo lf) (fM : FW ms) (fL : FW ls) (fD : FW ds) (fB : FW bs) (fX : FW xs) (fF : FW lf) (lM : ms.length ≤ 1125899906842624) (lB : bs.length ≤ 1125899906842624) (lX : xs.length ≤ 17592186044416) (hz : Shp ao cap) (hcap : ms.length ≤ cap) :
    Calls Tryz.prog 43 #[mxV r c ao ms.length cap, fcV n lo ls.length lc dO ds.length dc, .slice xo xs.length xc, .slice bo bs.length bc, .slice fo lf.length fc] w fun e w' => GaveT w (nt14 r c ms n ls ds bs xs lf) e w' := by
  have c1 := fun W h1 h2 h3 h4 => once_any n ls ds xs lf lo dO xo fo lc dc xc fc W h1 h2 h3 h4 fL fD fX fF lX
  have hlen : (omA n ls ds xs lf).1.length ≤ 17592186044416 := Nat.le_trans (omA_len n ls ds xs lf) lX
  have S0 := TwoB.new w r c ao ms.length cap n lo ls.length lc dO ds.length dc
  have B0 := S0.below
  unfold nt14
  generalize omA n ls ds xs lf = A at *
  obtain ⟨vs, er⟩ := A
  simp only at hlen c1 ⊢
  by_cases he : er = 0
  case neg =>
    rw [if_neg he]
    have i1 : (er != 0) = true := by simp [he]
    clear he
    go_enter Tryz.func43, Tryz.ntmps43
    go_wp2_with (go_at_call 37; refine (c1 _ (hL.below B0) (hD.below B0) (hX.below B0) (hF.below B0)).mono ?_; rintro e w1 ⟨zo, zc, rfl, k1, k2, k3, k4, b1⟩; have B1 := B0.trans (b1.mono B0.size))
    exact bodyPost_ret (v := .tuple #[.slice none 0 0, .slice none 0 0, .int .i64 er]) (by simp [results, Tryz.results43, go_sem]) rfl (GaveT.none er B1)
  rw [if_pos he]
  subst he
  have cl := fun (xo : Option Addr) (xc : Nat) W h1 h2 h3 h4 h5 => left_any r c ms vs bs ao xo bo cap xc bc W h1 h2 h3 h4 fM h5 fB lM (by omega) lB hz hcap
  generalize lfA r c ms vs bs = LA at *
  obtain ⟨lf', er⟩ := LA
  simp only at cl ⊢
  go_enter Tryz.func43, Tryz.ntmps43
  go_wp2_with (first
    | (go_at_call 37; refine (c1 _ (hL.below B0) (hD.below B0) (hX.below B0) (hF.below B0)).mono ?_; rintro e w1 ⟨zo, zc, rfl, k1, k2, k3, k4, b1⟩; have S1 := S0.later b1; obtain ⟨m0, m1, m2, _⟩ := id S1.mbox)
    | (go_at_call 10; refine (cl _ _ _ (tabW_below hT S1.below) (hM.below S1.below) k1 (hB.below S1.below) k2).mono ?_; rintro e w4 ⟨yo, yc, rfl, j1, j2, j3, j4, b4⟩; have B5 := S1.below))
  exact bodyPost_ret (v := .tuple #[.slice zo vs.length zc, .slice yo lf'.length yc, .int .i64 er]) (by simp [results, Tryz.results43, go_sem]) rfl ⟨zo, zc, yo, yc, rfl, k1.below b4, j1, k2, j2, k3, k4.mono B0.size, j4.mono B5.size, B5.trans (b4.mono B5.size)⟩
end Go.Proofs.YtmbcmhncicbbjaaGreatDoor
