/- What Sub, Mul, Apply and Symmetric of the program answer. -/
import Derived.Test.YtclldmdhpojciaaMx3
namespace Go.Proofs.Ytclldmdhpojciaa
open Go.RowKit

theorem below_one (w : World) (o : Obj) : Below w.heap.size w (w.alloc o) := (Below.refl _ _).alloc (Nat.le_refl _) _
/-- What is told of each place, row by row. -/
def tabM (R C : Nat) (o : Nat → Nat → Option Nat) : List (Option Nat) := tab (R * C) (fun p => o (p / C) (p % C))
theorem tabM_len (R C : Nat) (o : Nat → Nat → Option Nat) : (tabM R C o).length = R * C := tab_len _ _
theorem NR_next {o : Nat → Nat → Option Nat} {C k j r : Nat} {f : Nat → Nat} (hj : j < C) (h : ∀ p, p < k * C + j → NR (o (p / C) (p % C)) (f p)) (hr : NR (o k j) r) : ∀ p, p < k * C + (j + 1) → NR (o (p / C) (p % C)) (if p = k * C + j then r else f p) := by
  intro p hp
  by_cases e : p = k * C + j
  · subst e
    rw [if_pos rfl, (at_div hj).1, (at_div hj).2]
    exact hr
  · rw [if_neg e]
    exact h p (by omega)
/-- What stands in memory while a matrix is filled: the answer's box, the row, the matrix's box. -/
structure FillS (w wr : World) (R C N : Nat) (f : Nat → Nat) : Prop where
  res : B3 wr w.heap.size (.int .i64 0) (.int .i64 0) (.slice none 0 0)
  row : RRow wr (w.heap.size + 1) N f
  mbox : B3 wr (w.heap.size + 1 + 1) (.int .i64 R) (.int .i64 C) (.slice (some ⟨w.heap.size + 1, 0, none⟩) N N)
  below : Below w.heap.size w wr
theorem FillS.start (w : World) (R C N : Nat) (s u : TypeId) : FillS w (((w.alloc (.cells #[.int .i64 0, .int .i64 0, .slice none 0 0] s)).alloc (.cells (madeCells #[.float .f64 0] N) 29)).alloc (.cells #[.int .i64 R, .int .i64 C, .slice (some ⟨w.heap.size + 1, 0, none⟩) N N] u)) R C N (fun _ => 0) := by
  have e1 : (w.alloc (.cells #[.int .i64 0, .int .i64 0, .slice none 0 0] s)).heap.size = w.heap.size + 1 := by go_simp
  have e2 : ((w.alloc (.cells #[.int .i64 0, .int .i64 0, .slice none 0 0] s)).alloc (.cells (madeCells #[.float .f64 0] N) 29)).heap.size = w.heap.size + 1 + 1 := by go_simp
  refine ⟨((B3.new _ _ _ _ _).alloc _).alloc _, ?_, B3.newAt e2 _ _ _ _, old_three (Below.refl _ _)⟩
  have h := RRow.made (w.alloc (.cells #[.int .i64 0, .int .i64 0, .slice none 0 0] s)) N
  rw [e1] at h
  exact h.below (below_one _ _) (by rw [e2]; omega)
theorem FillS.drew {w wr : World} {R C N : Nat} {f : Nat → Nat} (h : FillS w wr R C N f) : FillS w wr.drew R C N f := ⟨h.res.drew, h.row, h.mbox.drew, h.below.drew⟩
theorem FillS.later {w wr w1 : World} {R C N : Nat} {f : Nat → Nat} (h : FillS w wr R C N f) (hb : Below wr.heap.size wr w1) : FillS w w1 R C N f :=
  ⟨h.res.below hb, h.row.below hb (by have := h.mbox.2.2.2.2.2.2; omega), h.mbox.below hb, h.below.trans (hb.mono h.below.size)⟩
theorem FillS.set {w wr : World} {R C N : Nat} {f : Nat → Nat} (h : FillS w wr R C N f) {q : Nat} (_hq : q < N) (r : Nat) : FillS w (wr.setCell ⟨w.heap.size + 1, q, none⟩ (.float .f64 r)) R C N (fun p => if p = q then r else f p) :=
  ⟨h.res.far (by omega) _, h.row.set q r, h.mbox.far (by omega) _, h.below.setCell (by show w.heap.size ≤ w.heap.size + 1; omega) _⟩
theorem FillS.fin {w wr : World} {R C N : Nat} {f : Nat → Nat} (h : FillS w wr R C N f) {x y z : Value} : RRow (((wr.setCell ⟨w.heap.size, 0, none⟩ x).setCell ⟨w.heap.size, 1, none⟩ y).setCell ⟨w.heap.size, 2, none⟩ z) (w.heap.size + 1) N f ∧ Below w.heap.size w (((wr.setCell ⟨w.heap.size, 0, none⟩ x).setCell ⟨w.heap.size, 1, none⟩ y).setCell ⟨w.heap.size, 2, none⟩ z) := by
  refine ⟨?_, set_three h.below (Nat.le_refl _) _ _ _⟩
  have n1 : w.heap.size + 1 ≠ w.heap.size := by omega
  exact World.rowIs.setOther (World.rowIs.setOther (World.rowIs.setOther h.row (by exact n1) _) (by exact n1) _) (by exact n1) _
set_option maxHeartbeats 2000000 in
theorem mfill_ident (o : Nat → Nat → Option Nat) (R C : Nat) (w : World) (hR : R ≤ 48) (hC : C ≤ 48) (hcl : ∀ (i j : Nat) (wr : World), i < R → j < C → Below w.heap.size w wr → Calls Try.prog 55 #[.int .i64 i, .int .i64 j] wr fun e w' => ∃ r, e = .returned (.float .f64 r) ∧ NR (o i j) r ∧ Below wr.heap.size wr w') :
    Calls Try.prog 54 #[.int .i64 R, .int .i64 C, .func (.func 55) #[] #[]] w fun e w' => ∃ v, e = .returned (.agg #[.int .i64 R, .int .i64 C, v]) ∧ GaveF w (tabM R C o) v w' := by
  obtain ⟨N, hN⟩ : ∃ N, R * C = N := ⟨_, rfl⟩
  have hNb : N ≤ 2304 := by rw [← hN]; exact mul48 hR hC
  have ccn := fun w => mcount_any R C N hR hC hN w
  have hpl := fun (i j p : Nat) (hi : i < R) (hj : j < C) (hp : i * C + j = p) W => mplace_any R C i j p N N (some ⟨w.heap.size + 1, 0, none⟩) (by omega) hC (by omega) hp W
  have hmk := run_make_row' (P := Try.prog) 22 29 (.float .f64 0) 8 Try.underlying22 Try.infoF rfl .i64 .i64 N (by omega) (by omega)
  have hq : ∀ i j, i < R → j < C → i * C + j < N := fun i j hi hj => by rw [← hN]; exact at_lt hi hj
  have HT : Hid (∀ f w', RRow w' (w.heap.size + 1) N f → (∀ p, p < N → NR (o (p / C) (p % C)) (f p)) → Below w.heap.size w w' → GaveF w (tabM R C o) (.slice (some ⟨w.heap.size + 1, 0, none⟩) N N) w') := fun f w' h1 h2 h3 => by
    unfold tabM
    rw [hN]
    exact ⟨some ⟨w.heap.size + 1, 0, none⟩, N, toL' N f, by rw [toL'_len], LN_tab (toL'_len _ _) (fun i hi => by rw [toL'_at hi]; exact h2 i hi), h1.grow (toL'_len _ _) (fun j hj => toL'_at hj), by rw [toL'_len]; exact Nat.le_refl _, fun a e => by cases e; show w.heap.size ≤ w.heap.size + 1; omega, h3⟩
  have HE : Hid (R * C = N) := hN
  clear hN
  go_enter Try.func54, Try.ntmps54
  go_wp2_with (go_at_call 59; refine (ccn _).mono ?_; rintro e w' ⟨rfl, h'⟩; subst w')
  have hst := vstoref Try.prog
  have HS0 : FillS w (((w.alloc (.cells #[.int .i64 0, .int .i64 0, .slice none 0 0] 34)).alloc (.cells (madeCells #[.float .f64 0] N) 29)).alloc (.cells #[.int .i64 R, .int .i64 C, .slice (some ⟨w.heap.size + 1, 0, none⟩) N N] 34)) R C N (fun _ => 0) := FillS.start w R C N _ _
  clear hmk ccn
  go_loopg [18] R (fun g i wr => ∃ (k : Nat) (f : Nat → Nat), k ≤ R ∧ g = R - k ∧ i = .int .i64 k ∧ Hid (∀ p, p < k * C → NR (o (p / C) (p % C)) (f p)) ∧ Hid (FillS w wr R C N f))
  case atStart => exact ⟨0, fun _ => 0, Nat.zero_le _, rfl, rfl, fun p hp => by omega, HS0⟩
  case round =>
    obtain ⟨k, f, hk, hg, rfl, hN, hF⟩ := hrel
    have HG : Hid (gk = R - k) := hg
    clear hg HS0
    by_cases hlt : k < R
    · have i1 : (k : Int) < (R : Int) := by omega
      go_wp2
      go_loopg [22] C (fun g j wv => ∃ (l : Nat) (f : Nat → Nat), l ≤ C ∧ g = C - l ∧ j = .int .i64 l ∧ Hid (∀ p, p < k * C + l → NR (o (p / C) (p % C)) (f p)) ∧ Hid (FillS w wv R C N f))
      case atStart => exact ⟨0, f, Nat.zero_le _, rfl, rfl, fun p hp => hN.out p (by omega), hF⟩
      case round =>
        clear hN hF f
        obtain ⟨l, f, hl, hg, rfl, hN, hF⟩ := hrel
        have HG2 : Hid (gk = C - l) := hg
        clear hg
        by_cases hlt2 : l < C
        · obtain ⟨q, hqq⟩ : ∃ q, k * C + l = q := ⟨_, rfl⟩
          have hqN : q < N := by rw [← hqq]; exact hq k l hlt hlt2
          have hqI : (q : Int) < (N : Int) := by omega
          have cp := hpl k l q hlt hlt2 hqq
          have HNX : Hid (∀ r, NR (o k l) r → ∀ p, p < k * C + (l + 1) → NR (o (p / C) (p % C)) (if p = q then r else f p)) := fun r hr => by rw [← hqq]; exact NR_next hlt2 hN.out hr
          have i2 : (l : Int) < (C : Int) := by omega
          have HFd := hF.out.drew
          have hcl2 := fun wq hb => hcl k l wq hlt hlt2 hb
          have HBx := HFd.below
          clear hqq hN hq hpl hcl HT HE
          have HC : ∀ w1, Below wr.drew.heap.size wr.drew w1 → w1.cell? ⟨w.heap.size + 1 + 1, 0, none⟩ = some (.int .i64 R) ∧ w1.cell? ⟨w.heap.size + 1 + 1, 1, none⟩ = some (.int .i64 C) ∧ w1.cell? ⟨w.heap.size + 1 + 1, 2, none⟩ = some (.slice (some ⟨w.heap.size + 1, 0, none⟩) N N) := fun w1 hb => by obtain ⟨x0, x1, x2, _⟩ := HFd.mbox.below hb; exact ⟨x0, x1, x2⟩
          have m0 := HC _ (Below.refl _ _)
          go_wp2
          go_region_held3 (fun w' => w'.cell? ⟨w.heap.size + 1 + 1, 0, none⟩ = some (.int .i64 R) ∧ w'.cell? ⟨w.heap.size + 1 + 1, 1, none⟩ = some (.int .i64 C) ∧ w'.cell? ⟨w.heap.size + 1 + 1, 2, none⟩ = some (.slice (some ⟨w.heap.size + 1, 0, none⟩) N N)) (go_keep)
            (first
              | (go_at_call 60; refine (cp _).mono ?_; rintro e w1 ⟨rfl, b1⟩; have m1 := HC _ b1; have HB1 := HBx.trans (b1.mono HBx.size))
              | (go_at_call 55; refine (hcl2 _ HB1).mono ?_; rintro e w2 ⟨r, rfl, hr, b2⟩; have b3 := b1.trans (b2.mono b1.size); have m2 := HC _ b3; have HF2 := HFd.later b3; have g2 := World.rowIs.cell HF2.row hqN; have g3 := World.rowIs.frozen HF2.row q))
          have HF3 := HF2.set hqN r
          go_wp2
          go_roundg (C - (l + 1))
          case measure => rw [HG2.out]; omega
          case rel => exact ⟨l + 1, fun p => if p = q then r else f p, by omega, rfl, by go_num, HNX.out r hr, HF3⟩
        · have el : l = C := by omega
          subst el
          have i2 : ¬ (l : Int) < (l : Int) := by omega
          have HNE : Hid (∀ p, p < (k + 1) * l → NR (o (p / l) (p % l)) (f p)) := fun p hp => hN.out p (by rw [Nat.succ_mul] at hp; exact hp)
          clear hN
          go_wp2
          go_roundg (R - (k + 1))
          case measure => rw [HG.out]; omega
          case rel => exact ⟨k + 1, f, by omega, rfl, by go_num, HNE, hF⟩
    · have ek : k = R := by omega
      subst ek
      have i1 : ¬ (k : Int) < (k : Int) := by omega
      obtain ⟨m0, m1, m2, _⟩ := hF.out.mbox
      obtain ⟨r0, r1, r2, s0, s1, s2, _⟩ := hF.out.res
      have hFin := fun x y z => HT.out f _ (hF.out.fin (x := x) (y := y) (z := z)).1 (fun p hp => hN.out p (by rw [HE.out]; exact hp)) (hF.out.fin (x := x) (y := y) (z := z)).2
      clear hN hcl hpl hq HT
      go_wp2
      exact bodyPost_ret (v := .agg #[.int .i64 k, .int .i64 C, .slice (some ⟨w.heap.size + 1, 0, none⟩) N N]) (by simp [results, Try.results54, go_sem, r0, r1, r2]) rfl ⟨_, rfl, hFin _ _ _⟩
set_option maxHeartbeats 2000000 in
theorem mfill_trans (o : Nat → Nat → Option Nat) (R C A : Nat) (w : World) (hR : R ≤ 48) (hC : C ≤ 48) (hcl : ∀ (i j : Nat) (wr : World), i < R → j < C → Below w.heap.size w wr → Calls Try.prog 57 #[.int .i64 i, .int .i64 j, .pointer (some ⟨A, 0, none⟩)] wr fun e w' => ∃ r, e = .returned (.float .f64 r) ∧ NR (o i j) r ∧ Below wr.heap.size wr w') :
    Calls Try.prog 54 #[.int .i64 R, .int .i64 C, .func (.func 57) #[] #[.pointer (some ⟨A, 0, none⟩)]] w fun e w' => ∃ v, e = .returned (.agg #[.int .i64 R, .int .i64 C, v]) ∧ GaveF w (tabM R C o) v w' := by
  obtain ⟨N, hN⟩ : ∃ N, R * C = N := ⟨_, rfl⟩
  have hNb : N ≤ 2304 := by rw [← hN]; exact mul48 hR hC
  have ccn := fun w => mcount_any R C N hR hC hN w
  have hpl := fun (i j p : Nat) (hi : i < R) (hj : j < C) (hp : i * C + j = p) W => mplace_any R C i j p N N (some ⟨w.heap.size + 1, 0, none⟩) (by omega) hC (by omega) hp W
  have hmk := run_make_row' (P := Try.prog) 22 29 (.float .f64 0) 8 Try.underlying22 Try.infoF rfl .i64 .i64 N (by omega) (by omega)
  have hq : ∀ i j, i < R → j < C → i * C + j < N := fun i j hi hj => by rw [← hN]; exact at_lt hi hj
  have HT : Hid (∀ f w', RRow w' (w.heap.size + 1) N f → (∀ p, p < N → NR (o (p / C) (p % C)) (f p)) → Below w.heap.size w w' → GaveF w (tabM R C o) (.slice (some ⟨w.heap.size + 1, 0, none⟩) N N) w') := fun f w' h1 h2 h3 => by
    unfold tabM
    rw [hN]
    exact ⟨some ⟨w.heap.size + 1, 0, none⟩, N, toL' N f, by rw [toL'_len], LN_tab (toL'_len _ _) (fun i hi => by rw [toL'_at hi]; exact h2 i hi), h1.grow (toL'_len _ _) (fun j hj => toL'_at hj), by rw [toL'_len]; exact Nat.le_refl _, fun a e => by cases e; show w.heap.size ≤ w.heap.size + 1; omega, h3⟩
  have HE : Hid (R * C = N) := hN
  clear hN
  go_enter Try.func54, Try.ntmps54
  go_wp2_with (go_at_call 59; refine (ccn _).mono ?_; rintro e w' ⟨rfl, h'⟩; subst w')
  have hst := vstoref Try.prog
  have HS0 : FillS w (((w.alloc (.cells #[.int .i64 0, .int .i64 0, .slice none 0 0] 34)).alloc (.cells (madeCells #[.float .f64 0] N) 29)).alloc (.cells #[.int .i64 R, .int .i64 C, .slice (some ⟨w.heap.size + 1, 0, none⟩) N N] 34)) R C N (fun _ => 0) := FillS.start w R C N _ _
  clear hmk ccn
  go_loopg [18] R (fun g i wr => ∃ (k : Nat) (f : Nat → Nat), k ≤ R ∧ g = R - k ∧ i = .int .i64 k ∧ Hid (∀ p, p < k * C → NR (o (p / C) (p % C)) (f p)) ∧ Hid (FillS w wr R C N f))
  case atStart => exact ⟨0, fun _ => 0, Nat.zero_le _, rfl, rfl, fun p hp => by omega, HS0⟩
  case round =>
    obtain ⟨k, f, hk, hg, rfl, hN, hF⟩ := hrel
    have HG : Hid (gk = R - k) := hg
    clear hg HS0
    by_cases hlt : k < R
    · have i1 : (k : Int) < (R : Int) := by omega
      go_wp2
      go_loopg [22] C (fun g j wv => ∃ (l : Nat) (f : Nat → Nat), l ≤ C ∧ g = C - l ∧ j = .int .i64 l ∧ Hid (∀ p, p < k * C + l → NR (o (p / C) (p % C)) (f p)) ∧ Hid (FillS w wv R C N f))
      case atStart => exact ⟨0, f, Nat.zero_le _, rfl, rfl, fun p hp => hN.out p (by omega), hF⟩
      case round =>
        clear hN hF f
        obtain ⟨l, f, hl, hg, rfl, hN, hF⟩ := hrel
        have HG2 : Hid (gk = C - l) := hg
        clear hg
        by_cases hlt2 : l < C
        · obtain ⟨q, hqq⟩ : ∃ q, k * C + l = q := ⟨_, rfl⟩
          have hqN : q < N := by rw [← hqq]; exact hq k l hlt hlt2
          have hqI : (q : Int) < (N : Int) := by omega
          have cp := hpl k l q hlt hlt2 hqq
          have HNX : Hid (∀ r, NR (o k l) r → ∀ p, p < k * C + (l + 1) → NR (o (p / C) (p % C)) (if p = q then r else f p)) := fun r hr => by rw [← hqq]; exact NR_next hlt2 hN.out hr
          have i2 : (l : Int) < (C : Int) := by omega
          have HFd := hF.out.drew
          have hcl2 := fun wq hb => hcl k l wq hlt hlt2 hb
          have HBx := HFd.below
          clear hqq hN hq hpl hcl HT HE
          have HC : ∀ w1, Below wr.drew.heap.size wr.drew w1 → w1.cell? ⟨w.heap.size + 1 + 1, 0, none⟩ = some (.int .i64 R) ∧ w1.cell? ⟨w.heap.size + 1 + 1, 1, none⟩ = some (.int .i64 C) ∧ w1.cell? ⟨w.heap.size + 1 + 1, 2, none⟩ = some (.slice (some ⟨w.heap.size + 1, 0, none⟩) N N) := fun w1 hb => by obtain ⟨x0, x1, x2, _⟩ := HFd.mbox.below hb; exact ⟨x0, x1, x2⟩
          have m0 := HC _ (Below.refl _ _)
          go_wp2
          go_region_held3 (fun w' => w'.cell? ⟨w.heap.size + 1 + 1, 0, none⟩ = some (.int .i64 R) ∧ w'.cell? ⟨w.heap.size + 1 + 1, 1, none⟩ = some (.int .i64 C) ∧ w'.cell? ⟨w.heap.size + 1 + 1, 2, none⟩ = some (.slice (some ⟨w.heap.size + 1, 0, none⟩) N N)) (go_keep)
            (first
              | (go_at_call 60; refine (cp _).mono ?_; rintro e w1 ⟨rfl, b1⟩; have m1 := HC _ b1; have HB1 := HBx.trans (b1.mono HBx.size))
              | (go_at_call 57; refine (hcl2 _ HB1).mono ?_; rintro e w2 ⟨r, rfl, hr, b2⟩; have b3 := b1.trans (b2.mono b1.size); have m2 := HC _ b3; have HF2 := HFd.later b3; have g2 := World.rowIs.cell HF2.row hqN; have g3 := World.rowIs.frozen HF2.row q))
          have HF3 := HF2.set hqN r
          go_wp2
          go_roundg (C - (l + 1))
          case measure => rw [HG2.out]; omega
          case rel => exact ⟨l + 1, fun p => if p = q then r else f p, by omega, rfl, by go_num, HNX.out r hr, HF3⟩
        · have el : l = C := by omega
          subst el
          have i2 : ¬ (l : Int) < (l : Int) := by omega
          have HNE : Hid (∀ p, p < (k + 1) * l → NR (o (p / l) (p % l)) (f p)) := fun p hp => hN.out p (by rw [Nat.succ_mul] at hp; exact hp)
          clear hN
          go_wp2
          go_roundg (R - (k + 1))
          case measure => rw [HG.out]; omega
          case rel => exact ⟨k + 1, f, by omega, rfl, by go_num, HNE, hF⟩
    · have ek : k = R := by omega
      subst ek
      have i1 : ¬ (k : Int) < (k : Int) := by omega
      obtain ⟨m0, m1, m2, _⟩ := hF.out.mbox
      obtain ⟨r0, r1, r2, s0, s1, s2, _⟩ := hF.out.res
      have hFin := fun x y z => HT.out f _ (hF.out.fin (x := x) (y := y) (z := z)).1 (fun p hp => hN.out p (by rw [HE.out]; exact hp)) (hF.out.fin (x := x) (y := y) (z := z)).2
      clear hN hcl hpl hq HT
      go_wp2
      exact bodyPost_ret (v := .agg #[.int .i64 k, .int .i64 C, .slice (some ⟨w.heap.size + 1, 0, none⟩) N N]) (by simp [results, Try.results54, go_sem, r0, r1, r2]) rfl ⟨_, rfl, hFin _ _ _⟩
end Go.Proofs.Ytclldmdhpojciaa

namespace Go.Proofs.Ytclldmdhpojciaa
open Go.RowKit

/-- An answer: rows, columns, numbers (a NaN as none), the error. -/
structure An where
  rows : Int
  cols : Int
  os : List (Option Nat)
  err : Int
/-- A matrix and an error handed back: what they are, the numbers in new memory. -/
def GaveA (w : World) (a : An) (e : Ending) (w' : World) : Prop := ∃ v, e = .returned (.tuple #[.agg #[.int .i64 a.rows, .int .i64 a.cols, v], .int .i64 a.err]) ∧ GaveF w a.os v w'
def noA (q : Int) : An := ⟨0, 0, [], q⟩
def mkA (r c : Int) : An := if okN r && okN c then ⟨r, c, tabM r.toNat c.toNat (fun _ _ => some 0), 0⟩ else noA 2
def idA (n : Int) : An := if okN n then ⟨n, n, tabM n.toNat n.toNat idO, 0⟩ else noA 2
def trA (r c : Int) (xs : List Nat) : An := if rightM r c xs.length then ⟨c, r, tabM c.toNat r.toNat (fun i j => enO c.toNat xs j i), 0⟩ else noA 4
def sbA (r c : Int) (xs : List Nat) (r2 c2 : Int) (ys : List Nat) : An := if rightM r c xs.length && rightM r2 c2 ys.length && alikeM r c r2 c2 then ⟨r, c, tabM r.toNat c.toNat (fun i j => opO .sub (enO c.toNat xs i j) (enO c.toNat ys i j)), 0⟩ else noA 4
def mlA (r c : Int) (xs : List Nat) (r2 c2 : Int) (ys : List Nat) : An := if rightM r c xs.length && rightM r2 c2 ys.length && decide (c = r2) then ⟨r, c2, tabM r.toNat c2.toNat (fun i j => muO c.toNat c2.toNat xs ys i j c.toNat), 0⟩ else noA 4
theorem GaveF.up' {w0 w w' : World} {os : List (Option Nat)} {v : Value} (h : GaveF w os v w') (hb : Below w0.heap.size w0 w) : GaveF w0 os v w' := by
  obtain ⟨ao, cap, rs, h1, h2, h3, h4, h5, h6⟩ := h
  exact ⟨ao, cap, rs, h1, h2, h3, h4, h5.mono hb.size, hb.trans (h6.mono hb.size)⟩
/-- A list handed back, its address, room and numbers told. -/
def GvL (w : World) (os : List (Option Nat)) (ao : Option Addr) (cap : Nat) (rs : List Nat) (w' : World) : Prop := LN os rs ∧ GRow w' ao rs ∧ rs.length ≤ cap ∧ Frs w.heap.size ao ∧ Below w.heap.size w w'
theorem GRow.boxed {w : World} {ao : Option Addr} {xs : List Nat} {n b : Nat} (h : GRow w ao xs) (hf : Frs n ao) (hb : b < n) (x y z : Value) : GRow (((w.setCell ⟨b, 0, none⟩ x).setCell ⟨b, 1, none⟩ y).setCell ⟨b, 2, none⟩ z) ao xs := by
  rcases h with h | ⟨c, off, rfl, hc⟩
  · exact Or.inl h
  · have hge : n ≤ c := hf _ rfl
    have hne : ∀ o p, (⟨c, o, none⟩ : Addr) ≠ ⟨b, p, none⟩ := fun o p e => by cases e; omega
    have hne' : ∀ o p, (⟨b, p, none⟩ : Addr) ≠ ⟨c, o, none⟩ := fun o p e => by cases e; omega
    refine Or.inr ⟨c, off, rfl, fun j hj => ?_⟩
    exact (World.cell?_setCell_other _ _ _ z (by first | exact hne _ _ | exact hne' _ _)).trans ((World.cell?_setCell_other _ _ _ y (by first | exact hne _ _ | exact hne' _ _)).trans ((World.cell?_setCell_other _ _ _ x (by first | exact hne _ _ | exact hne' _ _)).trans (hc j hj)))
theorem GvL.put {w w1 w2 : World} {os : List (Option Nat)} {ao : Option Addr} {cap : Nat} {rs : List Nat} {b : Nat} (h : GvL w1 os ao cap rs w2) (h1 : Below w.heap.size w w1) (hb : w.heap.size ≤ b) (hb1 : b < w1.heap.size) (x y z : Value) : GaveF w os (.slice ao rs.length cap) (((w2.setCell ⟨b, 0, none⟩ x).setCell ⟨b, 1, none⟩ y).setCell ⟨b, 2, none⟩ z) := by
  obtain ⟨e2, e3, e4, e5, e6⟩ := h
  exact ⟨ao, cap, rs, rfl, e2, e3.boxed e5 hb1 x y z, e4, e5.mono h1.size, set_three (h1.trans (e6.mono h1.size)) hb _ _ _⟩
theorem GaveF.none_put {w w1 : World} {b : Nat} (h1 : Below w.heap.size w w1) (hb : w.heap.size ≤ b) (x y z : Value) : GaveF w [] (.slice none 0 0) (((w1.setCell ⟨b, 0, none⟩ x).setCell ⟨b, 1, none⟩ y).setCell ⟨b, 2, none⟩ z) := GaveF.nil (set_three h1 hb _ _ _)
set_option maxHeartbeats 1000000 in
theorem mident_any (n : Int) (w : World) : Calls Try.prog 43 #[.int .i64 n] w fun e w' => GaveA w (idA n) e w' := by
  have hB : ∀ o, Below w.heap.size w (w.alloc o) := fun o => below_one w o
  have c1 := fun w => morder_any n w
  unfold idA
  cases q1 : okN n
  · rw [q1] at c1
    have hG := fun o => GaveF.nil (hB o)
    go_enter Try.func43, Try.ntmps43
    go_wp2_with (go_at_call 53; refine (c1 _).mono ?_; rintro e w' ⟨rfl, h'⟩; subst w')
    exact bodyPost_ret (v := .tuple #[.agg #[.int .i64 0, .int .i64 0, .slice none 0 0], .int .i64 2]) (by simp [results, Try.results43, go_sem]) rfl ⟨_, rfl, hG _⟩
  · rw [q1] at c1
    obtain ⟨R, rfl, hR⟩ := okN_nat q1
    have cf := fun w => mfill_ident idO R R w hR hR (fun i j wr _ _ _ => ident1_all i j wr)
    simp only [if_true, Int.toNat_natCast]
    generalize tabM R R idO = os at *
    clear q1
    go_enter Try.func43, Try.ntmps43
    go_wp2_with (first | (go_at_call 54; refine (cf _).mono ?_; rintro e w1 ⟨_, rfl, zo, zc, zs, rfl, hz⟩; have hv : GvL _ os zo zc zs w1 := hz; clear hz; obtain ⟨r0, r1, r2, s0, s1, s2, _⟩ := (B3.new _ _ _ _ _).below hv.2.2.2.2) | (go_at_call 53; refine (c1 _).mono ?_; rintro e w' ⟨rfl, h'⟩; subst w'))
    exact bodyPost_ret (v := .tuple #[.agg #[.int .i64 R, .int .i64 R, .slice zo zs.length zc], .int .i64 0]) (by simp [results, Try.results43, go_sem, r0, r1, r2]) rfl ⟨_, rfl, hv.put (hB _) (Nat.le_refl _) (by go_simp) _ _ _⟩
set_option maxHeartbeats 1000000 in
theorem mtrans_any (r c : Int) (xs : List Nat) (ao : Option Addr) (cap : Nat) (w : World) (hr : GRow w ao xs) (hF : FW xs) :
    Calls Try.prog 44 #[mxV r c ao xs.length cap] w fun e w' => GaveA w (trA r c xs) e w' := by
  have c1 := fun w => mright_any r c ao xs.length cap w
  unfold trA
  cases q1 : rightM r c xs.length
  · rw [q1] at c1
    go_enter Try.func44, Try.ntmps44
    go_wp2_with (go_at_call 56; refine (c1 _).mono ?_; rintro e w1 ⟨rfl, b1⟩; obtain ⟨r0, r1, r2, s0, s1, s2, _⟩ := (B3.newAt (n := w.heap.size + 1) (by go_simp) _ _ _ _).below b1)
    exact bodyPost_ret (v := .tuple #[.agg #[.int .i64 0, .int .i64 0, .slice none 0 0], .int .i64 4]) (by simp [results, Try.results44, go_sem, r0, r1, r2]) rfl ⟨_, rfl, GaveF.none_put (old_two b1) (by omega) _ _ _⟩
  · rw [q1] at c1
    obtain ⟨R, C, rfl, rfl, hR, hC, hl⟩ := rightM_nat q1
    simp only [if_true, Int.toNat_natCast]
    have cf := fun w1 (b1 : Below w.heap.size w w1) (hM : B3 w1 w.heap.size (.int .i64 R) (.int .i64 C) (.slice ao xs.length cap)) => mfill_trans (fun i j => enO C xs j i) C R w.heap.size w1 hC hR (fun i j wr hi hj hb => trans1_all R C xs ao cap w.heap.size i j wr (hr.below (b1.trans (hb.mono b1.size))) hF hl hR hC hi hj (hM.below hb))
    generalize tabM C R (fun i j => enO C xs j i) = os at *
    clear q1 hl hr hF
    generalize xs.length = n at *
    go_enter Try.func44, Try.ntmps44
    go_wp2_with (first
      | (go_at_call 56; refine (c1 _).mono ?_; rintro e w1 ⟨rfl, b1⟩; have bb := old_two b1; have MB := ((B3.new _ _ _ _ _).alloc _).below b1; have a0 := MB.1; have a1 := MB.2.1; have a2 := MB.2.2.1; have RB := (B3.newAt (n := w.heap.size + 1) (by go_simp) _ _ _ _).below b1)
      | (go_at_call 54; refine (cf _ bb MB).mono ?_; rintro e w2 ⟨_, rfl, zo, zc, zs, rfl, hz⟩; have hv : GvL _ os zo zc zs w2 := hz; clear hz; have hlt := RB.2.2.2.2.2.2; obtain ⟨r0, r1, r2, s0, s1, s2, _⟩ := RB.below hv.2.2.2.2))
    exact bodyPost_ret (v := .tuple #[.agg #[.int .i64 C, .int .i64 R, .slice zo zs.length zc], .int .i64 0]) (by simp [results, Try.results44, go_sem, r0, r1, r2]) rfl ⟨_, rfl, hv.put bb (by omega) hlt _ _ _⟩
end Go.Proofs.Ytclldmdhpojciaa

namespace Go.Proofs.Ytclldmdhpojciaa
open Go.RowKit

/-- Apply's answer. -/
def apA (r c : Int) (xs ys : List Nat) : List (Option Nat) × Int := ((mlA r c xs c 1 ys).os, (mlA r c xs c 1 ys).err)
/-- Is the matrix what it is turned over? -/
def symM (r c : Int) (xs : List Nat) : Bool := rightM r c xs.length && decide (r = c) && (List.range (r.toNat * r.toNat)).all fun p => sameB (xs.getD p 0) (xs.getD ((p % r.toNat) * r.toNat + p / r.toNat) 0)
theorem NR_toO {x y : Nat} (h : NR (toO x) y) (z : Nat) : sameB z y = sameB z x := by
  unfold toO at h
  cases hx : nanB x
  · rw [hx] at h
    have e : y = x := h.2
    rw [e]
  · rw [hx] at h
    have hy : nanB y = true := h.2
    unfold sameB
    rw [hx, hy]
    cases hz : nanB z
    · simp only [Bool.false_eq_true, if_false]
      rw [decide_eq_false (fun e => by subst e; rw [hz] at hy; cases hy), decide_eq_false (fun e => by subst e; rw [hz] at hx; cases hx)]
    · rfl
theorem sym_sameL {R : Nat} {xs zs : List Nat} (hl : xs.length = R * R) (h : LN (tabM R R (fun i j => enO R xs j i)) zs) : sameL xs zs = (List.range (R * R)).all fun p => sameB (xs.getD p 0) (xs.getD ((p % R) * R + p / R) 0) := by
  have hz : zs.length = R * R := by rw [h.1, tabM_len]
  unfold sameL
  rw [decide_eq_true (by rw [hl, hz]), Bool.true_and, hl]
  have hp : ∀ p, p ∈ List.range (R * R) → sameB (xs.getD p 0) (zs.getD p 0) = sameB (xs.getD p 0) (xs.getD ((p % R) * R + p / R) 0) := fun p hp => by
    have hp := List.mem_range.1 hp
    have h2 := h.2 p (by rw [tabM_len]; exact hp)
    unfold tabM at h2
    rw [tab_at hp] at h2
    exact NR_toO h2 _
  rw [Bool.eq_iff_iff, List.all_eq_true, List.all_eq_true]
  exact ⟨fun h p m => by rw [← hp p m]; exact h p m, fun h p m => by rw [hp p m]; exact h p m⟩
end Go.Proofs.Ytclldmdhpojciaa
