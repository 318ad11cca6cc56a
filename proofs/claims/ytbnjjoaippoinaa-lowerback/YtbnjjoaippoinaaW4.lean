/- What Right, entry, Times of layer 12 answer. -/
import Derived.Test.YtbnjjoaippoinaaW3
import Derived.Test.YtbnjjoaippoinaaXm4
import Derived.Test.YtbnjjoaippoinaaW1
namespace Go.Proofs.Ytbnjjoaippoinaa
open Go.RowKit

set_option maxHeartbeats 2000000 in
theorem mfill_row (o : Nat → Nat → Option Nat) (R C : Nat) (w : World) (hR : R ≤ 48) (hC : C ≤ 48) (hcl : ∀ (i j : Nat) (wr : World), i < R → j < C → Below w.heap.size w wr → Calls Try.prog 52 #[.int .i64 i, .int .i64 j] wr fun e w' => ∃ r, e = .returned (.float .f64 r) ∧ NR (o i j) r ∧ Below wr.heap.size wr w') :
    Calls Try.prog 51 #[.int .i64 R, .int .i64 C, .func (.func 52) #[] #[]] w fun e w' => ∃ g f, e = .returned (mxV R C (some ⟨g, 0, none⟩) (R * C) (R * C)) ∧ RRow w' g (R * C) f ∧ (∀ p, p < R * C → NR (o (p / C) (p % C)) (f p)) ∧ w.heap.size ≤ g ∧ g < w'.heap.size ∧ Below w.heap.size w w' := by
  obtain ⟨N, hN⟩ : ∃ N, R * C = N := ⟨_, rfl⟩
  have hNb : N ≤ 2304 := by rw [← hN]; exact mul48 hR hC
  have ccn := fun w => mcount_any R C N hR hC hN w
  have hpl := fun (i j p : Nat) (hi : i < R) (hj : j < C) (hp : i * C + j = p) W => mplace_any R C i j p N N (some ⟨w.heap.size + 1, 0, none⟩) (by omega) hC (by omega) hp W
  have hmk := run_make_row' (P := Try.prog) 22 38 (.float .f64 0) 8 Try.underlying22 Try.infoF rfl .i64 .i64 N (by omega) (by omega)
  have hq : ∀ i j, i < R → j < C → i * C + j < N := fun i j hi hj => by rw [← hN]; exact at_lt hi hj
  have HT : Hid (∀ f w', RRow w' (w.heap.size + 1) N f → (∀ p, p < N → NR (o (p / C) (p % C)) (f p)) → w.heap.size + 1 < w'.heap.size → Below w.heap.size w w' → ∃ g f, Ending.returned (mxV R C (some ⟨w.heap.size + 1, 0, none⟩) N N) = .returned (mxV R C (some ⟨g, 0, none⟩) (R * C) (R * C)) ∧ RRow w' g (R * C) f ∧ (∀ p, p < R * C → NR (o (p / C) (p % C)) (f p)) ∧ w.heap.size ≤ g ∧ g < w'.heap.size ∧ Below w.heap.size w w') := fun f w' h1 h2 h3 h4 => by
    rw [hN]
    exact ⟨w.heap.size + 1, f, rfl, h1, h2, by omega, h3, h4⟩
  have HE : Hid (R * C = N) := hN
  clear hN
  go_enter Try.func51, Try.ntmps51
  go_wp2_with (go_at_call 63; refine (ccn _).mono ?_; rintro e w' ⟨rfl, h'⟩; subst w')
  have hst := vstoref Try.prog
  have HS0 : FillS w (((w.alloc (.cells #[.int .i64 0, .int .i64 0, .slice none 0 0] 24)).alloc (.cells (madeCells #[.float .f64 0] N) 38)).alloc (.cells #[.int .i64 R, .int .i64 C, .slice (some ⟨w.heap.size + 1, 0, none⟩) N N] 24)) R C N (fun _ => 0) := FillS.start w R C N _ _
  clear hmk ccn
  go_loopg [18] R (fun g i wr => ∃ (k : Nat) (f : Nat → Nat), k ≤ R ∧ g = R - k ∧ i = .int .i64 k ∧ Hid (∀ p, p < k * C → NR (o (p / C) (p % C)) (f p)) ∧ Hid (FillS w wr R C N f))
  case atStart => exact ⟨0, fun _ => 0, Nat.zero_le _, rfl, rfl, fun p hp => by omega, HS0⟩
  case round =>
    obtain ⟨k, f, hk, hg, rfl, hN, hF⟩ := hrel
    have HG : Hid (gk = R - k) := hg
    clear hg HS0
    by_cases hlt : k < R
    · have i1 : (k : Int) < (R : Int) := by omega
      go_wp2
      go_loopg [22] C (fun g j wv => ∃ (l : Nat) (f : Nat → Nat), l ≤ C ∧ g = C - l ∧ j = .int .i64 l ∧ Hid (∀ p, p < k * C + l → NR (o (p / C) (p % C)) (f p)) ∧ Hid (FillS w wv R C N f))
      case atStart => exact ⟨0, f, Nat.zero_le _, rfl, rfl, fun p hp => hN.out p (by omega), hF⟩
      case round =>
        clear hN hF f
        obtain ⟨l, f, hl, hg, rfl, hN, hF⟩ := hrel
        have HG2 : Hid (gk = C - l) := hg
        clear hg
        by_cases hlt2 : l < C
        · obtain ⟨q, hqq⟩ : ∃ q, k * C + l = q := ⟨_, rfl⟩
          have hqN : q < N := by rw [← hqq]; exact hq k l hlt hlt2
          have hqI : (q : Int) < (N : Int) := by omega
          have cp := hpl k l q hlt hlt2 hqq
          have HNX : Hid (∀ r, NR (o k l) r → ∀ p, p < k * C + (l + 1) → NR (o (p / C) (p % C)) (if p = q then r else f p)) := fun r hr => by rw [← hqq]; exact NR_next hlt2 hN.out hr
          have i2 : (l : Int) < (C : Int) := by omega
          have HFd := hF.out.drew
          have hcl2 := fun wq hb => hcl k l wq hlt hlt2 hb
          have HBx := HFd.below
          clear hqq hN hq hpl hcl HT HE
          have HC : ∀ w1, Below wr.drew.heap.size wr.drew w1 → w1.cell? ⟨w.heap.size + 1 + 1, 0, none⟩ = some (.int .i64 R) ∧ w1.cell? ⟨w.heap.size + 1 + 1, 1, none⟩ = some (.int .i64 C) ∧ w1.cell? ⟨w.heap.size + 1 + 1, 2, none⟩ = some (.slice (some ⟨w.heap.size + 1, 0, none⟩) N N) := fun w1 hb => by obtain ⟨x0, x1, x2, _⟩ := HFd.mbox.below hb; exact ⟨x0, x1, x2⟩
          have m0 := HC _ (Below.refl _ _)
          go_wp2
          go_region_held3 (fun w' => w'.cell? ⟨w.heap.size + 1 + 1, 0, none⟩ = some (.int .i64 R) ∧ w'.cell? ⟨w.heap.size + 1 + 1, 1, none⟩ = some (.int .i64 C) ∧ w'.cell? ⟨w.heap.size + 1 + 1, 2, none⟩ = some (.slice (some ⟨w.heap.size + 1, 0, none⟩) N N)) (go_keep)
            (first
              | (go_at_call 64; refine (cp _).mono ?_; rintro e w1 ⟨rfl, b1⟩; have m1 := HC _ b1; have HB1 := HBx.trans (b1.mono HBx.size))
              | (go_at_call 52; refine (hcl2 _ HB1).mono ?_; rintro e w2 ⟨r, rfl, hr, b2⟩; have b3 := b1.trans (b2.mono b1.size); have m2 := HC _ b3; have HF2 := HFd.later b3; have g2 := World.rowIs.cell HF2.row hqN; have g3 := World.rowIs.frozen HF2.row q))
          have HF3 := HF2.set hqN r
          go_wp2
          go_roundg (C - (l + 1))
          case measure => rw [HG2.out]; omega
          case rel => exact ⟨l + 1, fun p => if p = q then r else f p, by omega, rfl, by go_num, HNX.out r hr, HF3⟩
        · have el : l = C := by omega
          subst el
          have i2 : ¬ (l : Int) < (l : Int) := by omega
          have HNE : Hid (∀ p, p < (k + 1) * l → NR (o (p / l) (p % l)) (f p)) := fun p hp => hN.out p (by rw [Nat.succ_mul] at hp; exact hp)
          clear hN
          go_wp2
          go_roundg (R - (k + 1))
          case measure => rw [HG.out]; omega
          case rel => exact ⟨k + 1, f, by omega, rfl, by go_num, HNE, hF⟩
    · have ek : k = R := by omega
      subst ek
      have i1 : ¬ (k : Int) < (k : Int) := by omega
      obtain ⟨m0, m1, m2, _⟩ := hF.out.mbox
      obtain ⟨r0, r1, r2, s0, s1, s2, _⟩ := hF.out.res
      have hsz : w.heap.size + 1 < wr.heap.size := by have := hF.out.mbox.2.2.2.2.2.2; omega
      have hFin := fun x y z => HT.out f _ (hF.out.fin (x := x) (y := y) (z := z)).1 (fun p hp => hN.out p (by rw [HE.out]; exact hp)) (by rw [size_three]; exact hsz) (hF.out.fin (x := x) (y := y) (z := z)).2
      clear hN hcl hpl hq HT
      go_wp2
      exact bodyPost_ret (v := .agg #[.int .i64 k, .int .i64 C, .slice (some ⟨w.heap.size + 1, 0, none⟩) N N]) (by simp [results, Try.results51, go_sem, r0, r1, r2]) rfl (by obtain ⟨g, f2, q0, q1, q2⟩ := hFin (.int .i64 k) (.int .i64 C) (.slice (some ⟨w.heap.size + 1, 0, none⟩) N N); exact ⟨g, q0, f2, q1, q2⟩)
set_option maxHeartbeats 1000000 in
theorem mmake_row (R : Nat) (hR : R ≤ 48) (w : World) : Calls Try.prog 36 #[.int .i64 R, .int .i64 R] w fun e w' => ∃ g f, e = .returned (.tuple #[mxV R R (some ⟨g, 0, none⟩) (R * R) (R * R), .int .i64 0]) ∧ RRow w' g (R * R) f ∧ (∀ p, p < R * R → f p = 0) ∧ w.heap.size ≤ g ∧ g < w'.heap.size ∧ Below w.heap.size w w' := by
  have c1 := fun w => morder_any R w
  rw [okN_iff.2 ⟨by omega, by omega⟩] at c1
  have cf := fun w => mfill_row (fun _ _ => some 0) R R w hR hR (fun i j wr _ _ _ => make1_all i j wr)
  obtain ⟨N, hN⟩ : ∃ N, R * R = N := ⟨_, rfl⟩
  rw [hN]
  rw [hN] at cf
  clear hN
  have hB := below_one w
  go_enter Try.func36, Try.ntmps36
  go_wp2_with (first
    | (go_at_call 50; refine (c1 _).mono ?_; rintro e w' ⟨rfl, h'⟩; subst w')
    | (go_at_call 51; refine (cf _).mono ?_; rintro e w1 ⟨g, f, rfl, h1, h2, h3, h4, h5⟩; have RB := (B3.new w _ _ _ _).below h5; obtain ⟨t0, t1, t2, s0, s1, s2, _⟩ := id RB))
  have hg : w.heap.size + 1 ≤ g := by simpa using h3
  exact bodyPost_ret (v := .tuple #[mxV R R (some ⟨g, 0, none⟩) N N, .int .i64 0]) (by simp [results, Try.results36, go_sem, t0, t1, t2]) rfl ⟨g, f, rfl, row_three h1 (by omega) _ _ _, fun p hp => (h2 p hp).2, by omega, by rw [size_three]; exact h4, set_three (old_one h5) (Nat.le_refl _) _ _ _⟩
end Go.Proofs.Ytbnjjoaippoinaa

namespace Go.Proofs.Ytbnjjoaippoinaa
open Go.RowKit

def rightF (n : Int) (ln dn : Nat) : Bool := okN n && decide (ln = tri n.toNat) && decide ((dn : Int) = n)
def lsF (ls : List Nat) (i k : Nat) : Nat := ls.getD (tri i + k) 0
def dsF (ds : List Nat) (k : Nat) : Nat := ds.getD k 0
theorem rightF_nat {n : Int} {ln dn : Nat} (h : rightF n ln dn = true) : ∃ N : Nat, n = N ∧ N ≤ 48 ∧ ln = tri N ∧ dn = N := by
  unfold rightF at h
  simp only [Bool.and_eq_true, decide_eq_true_eq] at h
  obtain ⟨⟨h1, h2⟩, h3⟩ := h
  obtain ⟨N, rfl, hN⟩ := okN_nat h1
  rw [Int.toNat_natCast] at h2
  exact ⟨N, rfl, hN, h2, by omega⟩
set_option maxHeartbeats 1000000 in
theorem lright_any (n : Int) (lo dO : Option Addr) (ln lc dn dc : Nat) (w : World) :
    Calls Try.prog 15 #[fcV n lo ln lc dO dn dc] w fun e w' => e = .returned (.bool (rightF n ln dn)) ∧ Below w.heap.size w w' := by
  have hb := below_one w
  unfold rightF
  cases q : okN n
  · unfold okN at q
    by_cases h0 : 0 ≤ n
    · have h1 : ¬ n ≤ 48 := fun h => by rw [decide_eq_true h0, decide_eq_true h] at q; cases q
      have d0 := decide_eq_true h0
      have d1 := decide_eq_false h1
      clear q h0 h1
      go_enter Try.func15, Try.ntmps15
      go_wp2
      go_quiet (fail)
      go_wp2
      go_ret
      exact ⟨rfl, below_drewN (hb _) _⟩
    · have d0 := decide_eq_false h0
      clear q h0
      go_enter Try.func15, Try.ntmps15
      go_wp2
      go_quiet (fail)
      go_wp2
      go_ret
      exact ⟨rfl, below_drewN (hb _) _⟩
  · obtain ⟨N, rfl, hN⟩ := okN_nat q
    clear q
    rw [Int.toNat_natCast]
    have h0 : (0 : Int) ≤ (N : Int) := by omega
    have h1 : (N : Int) ≤ 48 := by omega
    have cs := fun W => lstart_any N (tri N) (by omega) rfl W
    obtain ⟨T, hT⟩ : ∃ T, tri N = T := ⟨_, rfl⟩
    rw [hT] at cs ⊢
    clear hT
    by_cases e1 : ln = T
    · rw [decide_eq_true e1]
      have b1 : ((ln : Int) == (T : Int)) = true := by simp [e1]
      clear e1
      by_cases e2 : (dn : Int) = (N : Int)
      · rw [decide_eq_true e2]
        have b2 : ((dn : Int) == (N : Int)) = true := by rw [e2]; simp
        clear e2
        go_enter Try.func15, Try.ntmps15
        go_wp2
        go_quiet ((go_at_call 31; exact Calls.quiet_of_same (cs _)))
        go_wp2
        go_ret
        exact ⟨rfl, below_drewN (hb _) _⟩
      · rw [decide_eq_false e2]
        have b2 : ((dn : Int) == (N : Int)) = false := by simp; omega
        clear e2
        go_enter Try.func15, Try.ntmps15
        go_wp2
        go_quiet ((go_at_call 31; exact Calls.quiet_of_same (cs _)))
        go_wp2
        go_ret
        exact ⟨rfl, below_drewN (hb _) _⟩
    · rw [decide_eq_false e1]
      have b1 : ((ln : Int) == (T : Int)) = false := by simp; omega
      clear e1
      go_enter Try.func15, Try.ntmps15
      go_wp2
      go_quiet ((go_at_call 31; exact Calls.quiet_of_same (cs _)))
      go_wp2
      go_ret
      exact ⟨rfl, below_drewN (hb _) _⟩
/-- Two factors that are alike. -/
theorem sfac_any (n : Int) (ls ds ls' ds' : List Nat) (lo dO lo' do' : Option Addr) (lc dc lc' dc' : Nat) (w : World) (h1 : GRow w lo ls) (h2 : GRow w dO ds) (h3 : GRow w lo' ls') (h4 : GRow w do' ds') (f1 : FW ls) (f2 : FW ds) (f3 : FW ls') (f4 : FW ds')
    (n1 : ls.length ≤ 1200) (n2 : ds.length ≤ 1200) (n3 : ls'.length ≤ 1200) (n4 : ds'.length ≤ 1200) (e1 : sameL ls ls' = true) (e2 : sameL ds ds' = true) :
    Calls Try.prog 10 #[fcV n lo ls.length lc dO ds.length dc, fcV n lo' ls'.length lc' do' ds'.length dc'] w fun e w' => e = .returned (.bool true) ∧ Below w.heap.size w w' := by
  have hb : ∀ o p, Below w.heap.size w ((w.alloc o).alloc p) := fun o p => old_two (Below.refl _ _)
  have c1 := fun W g1 g2 => sreals_any ls ls' lo lo' lc lc' W g1 g2 f1 f3 (by omega) (by omega)
  have c2 := fun W g1 g2 => sreals_any ds ds' dO do' dc dc' W g1 g2 f2 f4 (by omega) (by omega)
  rw [e1] at c1
  rw [e2] at c2
  have b1 : (n == n) = true := by simp
  have A0 := (B3.new w (.int .i64 n) (.slice lo ls.length lc) (.slice dO ds.length dc) 26).alloc (.cells #[.int .i64 n, .slice lo' ls'.length lc', .slice do' ds'.length dc'] 26)
  have A1 := B3.newAt (w := w.alloc (.cells #[.int .i64 n, .slice lo ls.length lc, .slice dO ds.length dc] 26)) (n := w.heap.size + 1) (by go_simp) (.int .i64 n) (.slice lo' ls'.length lc') (.slice do' ds'.length dc') 26
  have g1 := h1.below (hb (.cells #[.int .i64 n, .slice lo ls.length lc, .slice dO ds.length dc] 26) (.cells #[.int .i64 n, .slice lo' ls'.length lc', .slice do' ds'.length dc'] 26))
  have g2 := h2.below (hb (.cells #[.int .i64 n, .slice lo ls.length lc, .slice dO ds.length dc] 26) (.cells #[.int .i64 n, .slice lo' ls'.length lc', .slice do' ds'.length dc'] 26))
  have g3 := h3.below (hb (.cells #[.int .i64 n, .slice lo ls.length lc, .slice dO ds.length dc] 26) (.cells #[.int .i64 n, .slice lo' ls'.length lc', .slice do' ds'.length dc'] 26))
  have g4 := h4.below (hb (.cells #[.int .i64 n, .slice lo ls.length lc, .slice dO ds.length dc] 26) (.cells #[.int .i64 n, .slice lo' ls'.length lc', .slice do' ds'.length dc'] 26))
  have BB := hb (.cells #[.int .i64 n, .slice lo ls.length lc, .slice dO ds.length dc] 26) (.cells #[.int .i64 n, .slice lo' ls'.length lc', .slice do' ds'.length dc'] 26)
  clear hb h1 h2 h3 h4
  go_enter Try.func10, Try.ntmps10
  go_upto_region 1 with fail
  generalize (w.alloc (.cells #[.int .i64 n, .slice lo ls.length lc, .slice dO ds.length dc] 26)).alloc (.cells #[.int .i64 n, .slice lo' ls'.length lc', .slice do' ds'.length dc'] 26) = W at *
  obtain ⟨a0, a1, a2, _⟩ := id A0
  obtain ⟨d0, d1, d2, _⟩ := id A1
  go_wp2_with (first
    | (go_at_call_of 27 (Value.slice lo ls.length lc); refine (c1 _ g1 g3).mono ?_; rintro e w1 ⟨rfl, b1⟩; obtain ⟨a0', a1', a2', _⟩ := A0.below b1; obtain ⟨d0', d1', d2', _⟩ := A1.below b1)
    | (go_at_call_of 27 (Value.slice dO ds.length dc); refine (c2 _ (g2.below b1) (g4.below b1)).mono ?_; rintro e w2 ⟨rfl, b2⟩))
  go_ret
  have B1 := BB.trans (b1.mono BB.size)
  exact ⟨rfl, B1.trans (b2.mono B1.size)⟩
end Go.Proofs.Ytbnjjoaippoinaa

namespace Go.Proofs.Ytbnjjoaippoinaa
open Go.RowKit

/-- L's number, the ones of the diagonal among them. -/
def eL (f : Nat → Nat → Nat) (i k : Nat) : Nat := if k = i then 4607182418800017408 else f i k
def tiO (f : Nat → Nat → Nat) (d : Nat → Nat) (i j : Nat) : Nat → Option Nat
  | 0 => some 0
  | k + 1 => opO .add (tiO f d i j k) (opO .mul (opO .mul (toO (eL f i k)) (toO (d k))) (toO (eL f j k)))
/-- The number at (i, j) of what a factor stands for. -/
def tmO (f : Nat → Nat → Nat) (d : Nat → Nat) (i j : Nat) : Option Nat := tiO f d (max i j) (min i j) (min i j + 1)
theorem tmO_comm (f : Nat → Nat → Nat) (d : Nat → Nat) (i j : Nat) : tmO f d i j = tmO f d j i := by unfold tmO; rw [Nat.max_comm, Nat.min_comm]
theorem tmO_low {f : Nat → Nat → Nat} {d : Nat → Nat} {i j : Nat} (h : j ≤ i) : tmO f d i j = tiO f d i j (j + 1) := by unfold tmO; rw [Nat.max_eq_left h, Nat.min_eq_right h]
def tiA (n : Int) (ls ds : List Nat) : An := if rightF n ls.length ds.length then ⟨n, n, tabM n.toNat n.toNat (tmO (lsF ls) (dsF ds)), 0⟩ else noA 4
set_option maxHeartbeats 1000000 in
theorem lentry_any (n : Int) (ls : List Nat) (lo : Option Addr) (lc : Nat) (d : Option Addr) (dn dc i k : Nat) (w : World) (hr : GRow w lo ls) (hi : i ≤ 48) (hk : k ≤ i) (hl : tri (i + 1) ≤ ls.length) (hc : ls.length ≤ lc) :
    Calls Try.prog 37 #[fcV n lo ls.length lc d dn dc, .int .i64 i, .int .i64 k] w fun e w' => e = .returned (.float .f64 (eL (lsF ls) i k)) ∧ Below w.heap.size w w' := by
  have hb := below_one w
  unfold eL
  by_cases e : k = i
  · rw [if_pos e]
    have b1 : ((k : Int) == (i : Int)) = true := by simp [e]
    clear e
    go_enter Try.func37, Try.ntmps37
    go_wp2
    go_ret
    exact ⟨rfl, hb _⟩
  · rw [if_neg e]
    have b1 : ((k : Int) == (i : Int)) = false := by simp; omega
    rw [tri] at hl
    rcases hr with h | ⟨b, off, rfl, hcell⟩
    · omega
    have hki : k < i := by omega
    have g := hcell (tri i + k) (by omega)
    have c1 := fun W => lrow_any n b off ls.length lc d dn dc i (tri i) W hi rfl (by omega)
    unfold lsF
    generalize tri i = t at *
    generalize ls.getD (t + k) 0 = x at *
    have i1 : (k : Int) < (i : Int) := by omega
    have g' := fun W (hB : Below w.heap.size w W) => (show W.cell? ⟨b, off + t + k, none⟩ = some (.float .f64 x) by rw [hB.cell (World.block_lt_of_cell? w _ (by rw [Nat.add_assoc]; exact g)), Nat.add_assoc]; exact g)
    clear hcell g e
    go_enter Try.func37, Try.ntmps37
    go_wp2_with (go_at_call 45; refine (c1 _).mono ?_; rintro e w1 ⟨o, rfl, ho, b1⟩; have B1 := old_one b1; have eo := ho (by omega); subst eo; have g2 := g' _ B1)
    go_ret
    exact ⟨rfl, B1⟩
end Go.Proofs.Ytbnjjoaippoinaa
