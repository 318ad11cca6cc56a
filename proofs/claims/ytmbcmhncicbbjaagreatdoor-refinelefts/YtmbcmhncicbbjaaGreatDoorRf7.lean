/- What Until answers. -/
import Derived.Test.YtmbcmhncicbbjaaGreatDoorRf6
namespace Go.Proofs.YtmbcmhncicbbjaaGreatDoor
open Go.RowKit

/-- A list, a number of steps and an error handed back. -/
def GaveU (w : World) (a : List Nat × Nat × Int) (e : Ending) (w' : World) : Prop := ∃ xo xc, e = .returned (.tuple #[.slice xo a.1.length xc, .int .i64 a.2.1, .int .i64 a.2.2]) ∧ GRow w' xo a.1 ∧ FW a.1 ∧ a.1.length ≤ xc ∧ Frs w.heap.size xo ∧ Below w.heap.size w w'
theorem GaveU.none {w w' : World} (er : Int) (h : Below w.heap.size w w') : GaveU w ([], 0, er) (.returned (.tuple #[.slice .none 0 0, .int .i64 0, .int .i64 er])) w' := ⟨.none, 0, rfl, Or.inl rfl, fw_none, Nat.le_refl _, Frs.none _, h⟩
theorem fi14_len (r c : Int) (ms : List Nat) (n : Int) (ls ds bs : List Nat) : (fi14 r c ms n ls ds bs).1.1.length ≤ 48 ∧ (fi14 r c ms n ls ds bs).1.2.length ≤ 48 := by
  have h1 : (sv14 n ls ds bs).1.length ≤ 48 := slA_len _ _ _ _ _
  unfold fi14
  split
  · split
    · exact ⟨by simpa using h1, lfA_len _ _ _ _ _⟩
    · simp
  · simp
theorem nt14_len (r c : Int) (ms : List Nat) (n : Int) (ls ds bs xs lf : List Nat) (h : xs.length ≤ 48) : (nt14 r c ms n ls ds bs xs lf).1.1.length ≤ 48 ∧ (nt14 r c ms n ls ds bs xs lf).1.2.length ≤ 48 := by
  unfold nt14
  split
  · exact ⟨Nat.le_trans (omA_len _ _ _ _ _) h, lfA_len _ _ _ _ _⟩
  · simp
/-- The two lists of the loop. -/
structure UnS (w wr : World) (xs lf : List Nat) (xo fo : Option Addr) (xc : Nat) : Prop where
  rx : GRow wr xo xs
  rl : GRow wr fo lf
  fx : FW xs
  fl : FW lf
  cx : xs.length ≤ xc
  nx : xs.length ≤ 48
  nl : lf.length ≤ 48
  hx : Frs w.heap.size xo
theorem UnS.later {w wr w1 : World} {xs lf : List Nat} {xo fo : Option Addr} {xc : Nat} (h : UnS w wr xs lf xo fo xc) (hb : Below wr.heap.size wr w1) : UnS w w1 xs lf xo fo xc := ⟨h.rx.below hb, h.rl.below hb, h.fx, h.fl, h.cx, h.nx, h.nl, h.hx⟩
/-- The steps that are left. -/
def Go14 (nx : List Nat × List Nat → Option (List Nat × List Nat)) (most : Nat) (s0 : List Nat × List Nat) (k : Nat) (s : List Nat × List Nat) : Prop := run14 nx most s0 = ((run14 nx (most - k) s).1, (run14 nx (most - k) s).2 + k)
theorem Go14.none {nx : List Nat × List Nat → Option (List Nat × List Nat)} {most k : Nat} {s0 s : List Nat × List Nat} (h : Go14 nx most s0 k s) (hn : nx s = .none) : run14 nx most s0 = (s, k) := by
  unfold Go14 at h
  rw [run14_none hn] at h
  rw [h, Nat.zero_add]
theorem Go14.last {nx : List Nat × List Nat → Option (List Nat × List Nat)} {most : Nat} {s0 s : List Nat × List Nat} (h : Go14 nx most s0 most s) : run14 nx most s0 = (s, most) := by
  unfold Go14 at h
  rw [Nat.sub_self] at h
  rw [h]
  simp [run14]
theorem Go14.some {nx : List Nat × List Nat → Option (List Nat × List Nat)} {most k : Nat} {s0 s t : List Nat × List Nat} (h : Go14 nx most s0 k s) (hk : k < most) (hn : nx s = .some t) : Go14 nx most s0 (k + 1) t := by
  unfold Go14 at h ⊢
  rw [show most - k = (most - (k + 1)) + 1 by omega, run14_some hn] at h
  rw [h]
  simp only [Prod.mk.injEq, true_and]
  omega
set_option maxRecDepth 100000 in
set_option maxHeartbeats 4000000 in
theorem until_any (r c : Int) (ms : List Nat) (n : Int) (ls ds bs : List Nat) (most : Nat) (ao lo dO bo : Option Addr) (cap lc dc bc : Nat) (w : World) (hm : most ≤ 64) (hT : TabW w) (hM : GRow w ao ms) (hL : GRow w lo ls) (hD : GRow w dO ds) (hB : GRow w bo bs) (fM : FW ms) (fL : FW ls) (fD : FW ds) (fB : FW bs) (lM : ms.length ≤ 1125899906842624) (lB : bs.length ≤ 1125899906842624) (hz : Shp ao cap) (hcap : ms.length ≤ cap) :
    Calls Tryz.prog 19 #[mxV r c ao ms.length cap, fcV n lo ls.length lc dO ds.length dc, .slice bo bs.length bc, .int .i64 most] w fun e w' => GaveU w (unA r c ms n ls ds bs most) e w' := by
  have S0 := TwoB.new w r c ao ms.length cap n lo ls.length lc dO ds.length dc
  have B0 := S0.below
  have c1 := fun W => mright_any r c ao ms.length cap W
  have c2 := fun W => rff_any r c n ao lo dO ms.length cap ls.length lc ds.length dc W
  have j1 : ¬ (most : Int) < 0 := by omega
  have j2 : ¬ (64 : Int) < (most : Int) := by omega
  cases q1 : rightM r c ms.length
  · have eA : unA r c ms n ls ds bs most = ([], 0, 4) := by
      have : unE r c ms n ls ds bs = 4 := by unfold unE fits14; rw [q1]; rfl
      unfold unA; rw [this]; rfl
    rw [q1] at c1
    rw [eA]
    go_enter Tryz.func19, Tryz.ntmps19
    go_wp2_with (go_at_call 41; refine (c1 _).mono ?_; rintro e w1 ⟨rfl, b1⟩; have S1 := S0.later b1)
    exact bodyPost_ret (v := .tuple #[.slice none 0 0, .int .i64 0, .int .i64 4]) (by simp [results, Tryz.results19, go_sem]) rfl (GaveU.none 4 S1.below)
  rw [q1] at c1
  cases q2 : ff14 r c n ls.length ds.length
  · have eA : unA r c ms n ls ds bs most = ([], 0, 4) := by
      have : unE r c ms n ls ds bs = 4 := by
        unfold unE fits14
        rw [show (rightF n ls.length ds.length && decide (r = n) && decide (c = n)) = false from q2, Bool.and_false]
        rfl
      unfold unA; rw [this]; rfl
    rw [q2] at c2
    rw [eA]
    clear q1
    go_enter Tryz.func19, Tryz.ntmps19
    go_wp2_with (first
      | (go_at_call 41; refine (c1 _).mono ?_; rintro e w1 ⟨rfl, b1⟩; have S1 := S0.later b1; obtain ⟨m0, m1, m2, _⟩ := id S1.mbox; obtain ⟨f0, f1, f2, _⟩ := id S1.fbox)
      | (go_at_call 36; refine (c2 _).mono ?_; rintro e w2 ⟨rfl, b2⟩; have S2 := S1.later b2))
    exact bodyPost_ret (v := .tuple #[.slice none 0 0, .int .i64 0, .int .i64 4]) (by simp [results, Tryz.results19, go_sem]) rfl (GaveU.none 4 S2.below)
  rw [q2] at c2
  by_cases q3 : (bs.length : Int) = r
  case neg =>
    have eA : unA r c ms n ls ds bs most = ([], 0, 4) := by
      have : unE r c ms n ls ds bs = 4 := by
        unfold unE fits14
        rw [decide_eq_false q3, Bool.and_false]
        rfl
      unfold unA; rw [this]; rfl
    have i3 : ((bs.length : Int) != r) = true := by simp [q3]
    rw [eA]
    clear q1 q2 q3
    go_enter Tryz.func19, Tryz.ntmps19
    go_wp2_with (first
      | (go_at_call 41; refine (c1 _).mono ?_; rintro e w1 ⟨rfl, b1⟩; have S1 := S0.later b1; obtain ⟨m0, m1, m2, _⟩ := id S1.mbox; obtain ⟨f0, f1, f2, _⟩ := id S1.fbox)
      | (go_at_call 36; refine (c2 _).mono ?_; rintro e w2 ⟨rfl, b2⟩; have S2 := S1.later b2; obtain ⟨m0, m1, m2, _⟩ := id S2.mbox))
    exact bodyPost_ret (v := .tuple #[.slice none 0 0, .int .i64 0, .int .i64 4]) (by simp [results, Tryz.results19, go_sem]) rfl (GaveU.none 4 S2.below)
  have i3 : ((bs.length : Int) != r) = false := by simp [q3]
  have qf : fits14 r c ms.length n ls.length ds.length bs.length = true := by
    unfold fits14
    rw [q1, show (rightF n ls.length ds.length && decide (r = n) && decide (c = n)) = true from q2, decide_eq_true q3]
    rfl
  have cfi : ∀ W, Below w.heap.size w W → Calls Tryz.prog 25 #[.slice (some ⟨W.heap.size, 0, none⟩) 2 2] (W.alloc (.cells #[.slice ao ms.length cap, .slice bo bs.length bc] 22)) fun e w' => e = .returned (.bool (ms.all finB && bs.all finB)) ∧ w' = W.alloc (.cells #[.slice ao ms.length cap, .slice bo bs.length bc] 22) := fun W h =>
    rfin2 W.heap.size ao bo cap bc ms bs _ (by go_simp) (by go_simp) (hM.below (h.alloc h.size _)) (hB.below (h.alloc h.size _)) fM fB lM lB
  cases q4 : (ms.all finB && bs.all finB)
  · have eA : unA r c ms n ls ds bs most = ([], 0, 5) := by
      have : unE r c ms n ls ds bs = 5 := by unfold unE; rw [qf, q4]; rfl
      unfold unA; rw [this]; rfl
    rw [q4] at cfi
    rw [eA]
    clear q1 q2 q3 q4 qf
    go_enter Tryz.func19, Tryz.ntmps19
    go_wp2_with (first
      | (go_at_call 41; refine (c1 _).mono ?_; rintro e w1 ⟨rfl, b1⟩; have S1 := S0.later b1; obtain ⟨m0, m1, m2, _⟩ := id S1.mbox; obtain ⟨f0, f1, f2, _⟩ := id S1.fbox)
      | (go_at_call 36; refine (c2 _).mono ?_; rintro e w2 ⟨rfl, b2⟩; have S2 := S1.later b2; obtain ⟨m0, m1, m2, _⟩ := id S2.mbox)
      | (go_at_call 25; refine (cfi _ S2.below).mono ?_; rintro e w' ⟨rfl, h'⟩; subst w'; have S3 := fun o => S2.later (below_one w2 o)))
    exact bodyPost_ret (v := .tuple #[.slice none 0 0, .int .i64 0, .int .i64 5]) (by simp [results, Tryz.results19, go_sem]) rfl (GaveU.none 5 (S3 _).below)
  rw [q4] at cfi
  have eU : unE r c ms n ls ds bs = (fi14 r c ms n ls ds bs).2 := by unfold unE; rw [qf, q4]; rfl
  have c3 := fun W h0 h1 h2 h3 h4 => first_any r c ms n ls ds bs ao lo dO bo cap lc dc bc W h0 h1 h2 h3 h4 fM fL fD fB lM lB hz hcap
  have HA : Hid (∀ xs lf k, (fi14 r c ms n ls ds bs).2 = 0 → run14 (nx14 r c ms n ls ds bs) most (fi14 r c ms n ls ds bs).1 = ((xs, lf), k) → unA r c ms n ls ds bs most = (xs, k, 0)) := fun xs lf k h1 h2 => by
    unfold unA unR
    rw [eU, if_pos h1, h2]
  have HZ : Hid ((fi14 r c ms n ls ds bs).2 ≠ 0 → unA r c ms n ls ds bs most = ([], 0, (fi14 r c ms n ls ds bs).2)) := fun h => by
    unfold unA
    rw [eU, if_neg h]
  have hlen := fi14_len r c ms n ls ds bs
  have cn := fun xs lf (xo fo : Option Addr) (xc fc : Nat) W h0 h1 h2 h3 h4 h5 h6 f1 f2 lX => rnext14_any r c ms n ls ds bs xs lf ao lo dO bo xo fo cap lc dc bc xc fc W h0 h1 h2 h3 h4 h5 h6 fM fL fD fB f1 f2 lM lB lX hz hcap
  have hntl := fun xs lf h => nt14_len r c ms n ls ds bs xs lf h
  have hnx := fun xs lf => nx14_nt r c ms n ls ds bs (xs, lf)
  generalize unA r c ms n ls ds bs most = UA at *
  generalize nx14 r c ms n ls ds bs = nx at *
  generalize nt14 r c ms n ls ds bs = nt at *
  generalize fi14 r c ms n ls ds bs = F at *
  obtain ⟨⟨x0, l0⟩, er⟩ := F
  simp only at HA HZ hlen c3 hnx
  clear q1 q2 q3 q4 qf eU
  by_cases he : er = 0
  case neg =>
    have HZ := HZ.out he
    subst HZ
    have i4 : (er != 0) = true := by simp [he]
    clear he HA
    go_enter Tryz.func19, Tryz.ntmps19
    go_wp2_with (first
      | (go_at_call 41; refine (c1 _).mono ?_; rintro e w1 ⟨rfl, b1⟩; have S1 := S0.later b1; obtain ⟨m0, m1, m2, _⟩ := id S1.mbox; obtain ⟨f0, f1, f2, _⟩ := id S1.fbox)
      | (go_at_call 36; refine (c2 _).mono ?_; rintro e w2 ⟨rfl, b2⟩; have S2 := S1.later b2; obtain ⟨m0, m1, m2, _⟩ := id S2.mbox)
      | (go_at_call 25; refine (cfi _ S2.below).mono ?_; rintro e w' ⟨rfl, h'⟩; subst w'; have S3 := S2.later (below_one w2 (.cells #[.slice ao ms.length cap, .slice bo bs.length bc] 22)); obtain ⟨m0, m1, m2, _⟩ := id S3.mbox; obtain ⟨f0, f1, f2, _⟩ := id S3.fbox)
      | (go_at_call 42; refine (c3 _ (tabW_below hT S3.below) (hM.below S3.below) (hL.below S3.below) (hD.below S3.below) (hB.below S3.below)).mono ?_; rintro e w4 ⟨xo, xc, fo, fc, rfl, k1, k2, k3, k4, k5, k6, k7, b4⟩; have S4 := S3.later b4))
    exact bodyPost_ret (v := .tuple #[.slice none 0 0, .int .i64 0, .int .i64 er]) (by simp [results, Tryz.results19, go_sem]) rfl (GaveU.none er S4.below)
  subst he
  clear HZ
  go_enter Tryz.func19, Tryz.ntmps19
  go_upto_region 11 with (first
    | (go_at_call 41; refine (c1 _).mono ?_; rintro e w1 ⟨rfl, b1⟩; have S1 := S0.later b1; obtain ⟨m0, m1, m2, _⟩ := id S1.mbox; obtain ⟨f0, f1, f2, _⟩ := id S1.fbox)
    | (go_at_call 36; refine (c2 _).mono ?_; rintro e w2 ⟨rfl, b2⟩; have S2 := S1.later b2; obtain ⟨m0, m1, m2, _⟩ := id S2.mbox)
    | (go_at_call 25; refine (cfi _ S2.below).mono ?_; rintro e w' ⟨rfl, h'⟩; subst w'; have S3 := S2.later (below_one w2 (.cells #[.slice ao ms.length cap, .slice bo bs.length bc] 22)); obtain ⟨m0, m1, m2, _⟩ := id S3.mbox; obtain ⟨f0, f1, f2, _⟩ := id S3.fbox)
    | (go_at_call 42; refine (c3 _ (tabW_below hT S3.below) (hM.below S3.below) (hL.below S3.below) (hD.below S3.below) (hB.below S3.below)).mono ?_; rintro e w4 ⟨xo, xc, fo, fc, rfl, k1, k2, k3, k4, k5, k6, k7, b4⟩; have S4 := S3.later b4))
  have U4 : UnS w w4 x0 l0 xo fo xc := ⟨k1, k2, k3, k4, k5, hlen.1, hlen.2, k6.mono S3.below.size⟩
  clear m0 m1 m2 f0 f1 f2 S3 S2 S1 S0 B0 b1 b2 b4 k1 k2 k3 k4 k5 k6 k7 c1 c2 c3 cfi
  go_loopg [11, 12, 61] most (fun gg s11 s12 s61 wr => ∃ (k : Nat) (xs lf : List Nat) (xo fo : Option Addr) (xc fc : Nat), k ≤ most ∧ gg = most - k ∧ s11 = .slice xo xs.length xc ∧ s12 = .slice fo lf.length fc ∧ s61 = .int .i64 k ∧ Hid (Go14 nx most (x0, l0) k (xs, lf)) ∧ UnS w wr xs lf xo fo xc ∧ TwoB w wr r c ao ms.length cap n lo ls.length lc dO ds.length dc)
  case atStart => exact ⟨0, x0, l0, xo, fo, xc, fc, Nat.zero_le _, rfl, rfl, rfl, rfl, (show Go14 nx most (x0, l0) 0 (x0, l0) from rfl), U4, S4⟩
  case round =>
    clear U4 S4
    obtain ⟨k, xs, lf, yo, go, yc, gc, hk, hg, rfl, rfl, rfl, hG, U, S⟩ := hrel
    have HG : Hid (gk = most - k) := hg
    clear hg
    by_cases hlt : k < most
    · have i5 : (k : Int) < (most : Int) := by omega
      obtain ⟨m0, m1, m2, _⟩ := id S.mbox
      obtain ⟨f0, f1, f2, _⟩ := id S.fbox
      have cx := cn xs lf yo go yc gc wr (tabW_below hT S.below) (hM.below S.below) (hL.below S.below) (hD.below S.below) (hB.below S.below) U.rx U.rl U.fx U.fl (by have := U.nx; omega)
      have hx := hnx xs lf
      have hl := hntl xs lf U.nx
      generalize nt xs lf = T at *
      obtain ⟨⟨y1, l1⟩, er⟩ := T
      simp only at hx hl cx
      clear cn hnx hntl
      have cv1 := fun (o : Option Addr) (q : Nat) W h1 h2 => vnorm_any l1 o q W h1 h2 (by omega)
      have cv2 := fun W h1 => vnorm_any lf go gc W h1 U.fl (by have := U.nl; omega)
      by_cases he : er = 0
      case neg =>
        rw [if_neg he] at hx
        have E := HA.out xs lf k (by first | rfl | trivial) (hG.out.none hx)
        subst E
        have i6 : (er != 0) = true := by simp [he]
        clear HA hG he hx cv1 cv2 hl
        go_wp2_with (first
        | (go_at_call 43; refine cx.mono ?_; rintro e w5 ⟨zo, zc, vo, vc, rfl, k1, k2, k3, k4, k5, k6, k7, b5⟩; have S5 := S.later b5; have U5 := U.later b5))
        have hu1 := U5.rx
        have hb := S5.below
        exact bodyPost_ret (v := .tuple #[.slice yo xs.length yc, .int .i64 k, .int .i64 0]) (by simp [results, Tryz.results19, go_sem]) rfl ⟨yo, yc, rfl, hu1, U.fx, U.cx, U.hx, hb⟩
      subst he
      rw [if_pos rfl] at hx
      cases ql : ltO (nv l1) (nv lf)
      · rw [ql] at hx
        have E := HA.out xs lf k (by first | rfl | trivial) (hG.out.none hx)
        subst E
        have HQ : Hid (∀ a b, NR (nv l1) a → NR (nv lf) b → (FloatKind.f64.format.order a b == some .lt) = false) := fun a b h1 h2 => by rw [NR_lt h1 h2, ql]
        clear HA hG hx ql hl
        go_wp2_with (first
        | (go_at_call 43; refine cx.mono ?_; rintro e w5 ⟨zo, zc, vo, vc, rfl, k1, k2, k3, k4, k5, k6, k7, b5⟩; have S5 := S.later b5; have U5 := U.later b5)
        | (go_at_call 44; have q7 := n6; refine (cv2 _ (U5.rl.below b6)).mono ?_; rintro e w7 ⟨a7, rfl, n7, b7⟩; have hq := HQ.out _ _ n6 n7)
        | (go_at_call 44; refine (cv1 _ _ _ k2 k4).mono ?_; rintro e w6 ⟨a6, rfl, n6, b6⟩))
        have S7 := (S5.later b6).later b7
        have hu1 := ((U5.later b6).later b7).rx
        have hb := S7.below
        exact bodyPost_ret (v := .tuple #[.slice yo xs.length yc, .int .i64 k, .int .i64 0]) (by simp [results, Tryz.results19, go_sem]) rfl ⟨yo, yc, rfl, hu1, U.fx, U.cx, U.hx, hb⟩
      · rw [ql] at hx
        have G1 := hG.out.some hlt hx
        have HQ : Hid (∀ a b, NR (nv l1) a → NR (nv lf) b → (FloatKind.f64.format.order a b == some .lt) = true) := fun a b h1 h2 => by rw [NR_lt h1 h2, ql]
        clear hG hx ql
        go_wp2_with (first
        | (go_at_call 43; refine cx.mono ?_; rintro e w5 ⟨zo, zc, vo, vc, rfl, k1, k2, k3, k4, k5, k6, k7, b5⟩; have S5 := S.later b5; have U5 := U.later b5)
        | (go_at_call 44; have q7 := n6; refine (cv2 _ (U5.rl.below b6)).mono ?_; rintro e w7 ⟨a7, rfl, n7, b7⟩; have hq := HQ.out _ _ n6 n7)
        | (go_at_call 44; refine (cv1 _ _ _ k2 k4).mono ?_; rintro e w6 ⟨a6, rfl, n6, b6⟩))
        have S7 := (S5.later b6).later b7
        have U7 : UnS w w7 y1 l1 zo vo zc := ⟨(k1.below b6).below b7, (k2.below b6).below b7, k3, k4, k5, hl.1, hl.2, k6.mono S.below.size⟩
        go_roundg (most - (k + 1))
        case measure => rw [HG.out]; omega
        case rel => exact ⟨k + 1, y1, l1, zo, vo, zc, vc, by omega, rfl, rfl, rfl, by go_num, G1, U7, S7⟩
    · have ek : k = most := by omega
      subst ek
      have i5 : ¬ (k : Int) < (k : Int) := by omega
      have E := HA.out xs lf k (by first | rfl | trivial) hG.out.last
      subst E
      clear HA hG
      have hu1 := U.rx
      have hu2 := U.fx
      have hu3 := U.cx
      have hu4 := U.hx
      have hb := S.below
      go_wp2
      exact bodyPost_ret (v := .tuple #[.slice yo xs.length yc, .int .i64 k, .int .i64 0]) (by simp [results, Tryz.results19, go_sem]) rfl ⟨yo, yc, rfl, hu1, hu2, hu3, hu4, hb⟩
end Go.Proofs.YtmbcmhncicbbjaaGreatDoor
