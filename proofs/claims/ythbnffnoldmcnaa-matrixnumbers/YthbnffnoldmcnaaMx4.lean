/- What filled makes of each closure. -/
import Derived.Test.YthbnffnoldmcnaaMx3
namespace Go.Proofs.Ythbnffnoldmcnaa
open Go.RowKit

theorem below_one (w : World) (o : Obj) : Below w.heap.size w (w.alloc o) := (Below.refl _ _).alloc (Nat.le_refl _) _
/-- What is told of each place, row by row. -/
def tabM (R C : Nat) (o : Nat → Nat → Option Nat) : List (Option Nat) := tab (R * C) (fun p => o (p / C) (p % C))
theorem tabM_len (R C : Nat) (o : Nat → Nat → Option Nat) : (tabM R C o).length = R * C := tab_len _ _
theorem NR_next {o : Nat → Nat → Option Nat} {C k j r : Nat} {f : Nat → Nat} (hj : j < C) (h : ∀ p, p < k * C + j → NR (o (p / C) (p % C)) (f p)) (hr : NR (o k j) r) : ∀ p, p < k * C + (j + 1) → NR (o (p / C) (p % C)) (if p = k * C + j then r else f p) := by
  intro p hp
  by_cases e : p = k * C + j
  · subst e
    rw [if_pos rfl, (at_div hj).1, (at_div hj).2]
    exact hr
  · rw [if_neg e]
    exact h p (by omega)
/-- What stands in memory while a matrix is filled: the answer's box, the row, the matrix's box. -/
structure FillS (w wr : World) (R C N : Nat) (f : Nat → Nat) : Prop where
  res : B3 wr w.heap.size (.int .i64 0) (.int .i64 0) (.slice none 0 0)
  row : RRow wr (w.heap.size + 1) N f
  mbox : B3 wr (w.heap.size + 1 + 1) (.int .i64 R) (.int .i64 C) (.slice (some ⟨w.heap.size + 1, 0, none⟩) N N)
  below : Below w.heap.size w wr
theorem FillS.start (w : World) (R C N : Nat) (s u : TypeId) : FillS w (((w.alloc (.cells #[.int .i64 0, .int .i64 0, .slice none 0 0] s)).alloc (.cells (madeCells #[.float .f64 0] N) 31)).alloc (.cells #[.int .i64 R, .int .i64 C, .slice (some ⟨w.heap.size + 1, 0, none⟩) N N] u)) R C N (fun _ => 0) := by
  have e1 : (w.alloc (.cells #[.int .i64 0, .int .i64 0, .slice none 0 0] s)).heap.size = w.heap.size + 1 := by go_simp
  have e2 : ((w.alloc (.cells #[.int .i64 0, .int .i64 0, .slice none 0 0] s)).alloc (.cells (madeCells #[.float .f64 0] N) 31)).heap.size = w.heap.size + 1 + 1 := by go_simp
  refine ⟨((B3.new _ _ _ _ _).alloc _).alloc _, ?_, B3.newAt e2 _ _ _ _, old_three (Below.refl _ _)⟩
  have h := RRow.made (w.alloc (.cells #[.int .i64 0, .int .i64 0, .slice none 0 0] s)) N
  rw [e1] at h
  exact h.below (below_one _ _) (by rw [e2]; omega)
theorem FillS.drew {w wr : World} {R C N : Nat} {f : Nat → Nat} (h : FillS w wr R C N f) : FillS w wr.drew R C N f := ⟨h.res.drew, h.row, h.mbox.drew, h.below.drew⟩
theorem FillS.later {w wr w1 : World} {R C N : Nat} {f : Nat → Nat} (h : FillS w wr R C N f) (hb : Below wr.heap.size wr w1) : FillS w w1 R C N f :=
  ⟨h.res.below hb, h.row.below hb (by have := h.mbox.2.2.2.2.2.2; omega), h.mbox.below hb, h.below.trans (hb.mono h.below.size)⟩
theorem FillS.set {w wr : World} {R C N : Nat} {f : Nat → Nat} (h : FillS w wr R C N f) {q : Nat} (_hq : q < N) (r : Nat) : FillS w (wr.setCell ⟨w.heap.size + 1, q, none⟩ (.float .f64 r)) R C N (fun p => if p = q then r else f p) :=
  ⟨h.res.far (by omega) _, h.row.set q r, h.mbox.far (by omega) _, h.below.setCell (by show w.heap.size ≤ w.heap.size + 1; omega) _⟩
theorem FillS.fin {w wr : World} {R C N : Nat} {f : Nat → Nat} (h : FillS w wr R C N f) {x y z : Value} : RRow (((wr.setCell ⟨w.heap.size, 0, none⟩ x).setCell ⟨w.heap.size, 1, none⟩ y).setCell ⟨w.heap.size, 2, none⟩ z) (w.heap.size + 1) N f ∧ Below w.heap.size w (((wr.setCell ⟨w.heap.size, 0, none⟩ x).setCell ⟨w.heap.size, 1, none⟩ y).setCell ⟨w.heap.size, 2, none⟩ z) := by
  refine ⟨?_, set_three h.below (Nat.le_refl _) _ _ _⟩
  have n1 : w.heap.size + 1 ≠ w.heap.size := by omega
  exact World.rowIs.setOther (World.rowIs.setOther (World.rowIs.setOther h.row (by exact n1) _) (by exact n1) _) (by exact n1) _
set_option maxHeartbeats 2000000 in
theorem mfill_make (o : Nat → Nat → Option Nat) (R C : Nat) (w : World) (hR : R ≤ 48) (hC : C ≤ 48) (hcl : ∀ (i j : Nat) (wr : World), i < R → j < C → Below w.heap.size w wr → Calls Try.prog 47 #[.int .i64 i, .int .i64 j] wr fun e w' => ∃ r, e = .returned (.float .f64 r) ∧ NR (o i j) r ∧ Below wr.heap.size wr w') :
    Calls Try.prog 46 #[.int .i64 R, .int .i64 C, .func (.func 47) #[] #[]] w fun e w' => ∃ v, e = .returned (.agg #[.int .i64 R, .int .i64 C, v]) ∧ GaveF w (tabM R C o) v w' := by
  obtain ⟨N, hN⟩ : ∃ N, R * C = N := ⟨_, rfl⟩
  have hNb : N ≤ 2304 := by rw [← hN]; exact mul48 hR hC
  have ccn := fun w => mcount_any R C N hR hC hN w
  have hpl := fun (i j p : Nat) (hi : i < R) (hj : j < C) (hp : i * C + j = p) W => mplace_any R C i j p N N (some ⟨w.heap.size + 1, 0, none⟩) (by omega) hC (by omega) hp W
  have hmk := run_make_row' (P := Try.prog) 22 31 (.float .f64 0) 8 Try.underlying22 Try.infoF rfl .i64 .i64 N (by omega) (by omega)
  have hq : ∀ i j, i < R → j < C → i * C + j < N := fun i j hi hj => by rw [← hN]; exact at_lt hi hj
  have HT : Hid (∀ f w', RRow w' (w.heap.size + 1) N f → (∀ p, p < N → NR (o (p / C) (p % C)) (f p)) → Below w.heap.size w w' → GaveF w (tabM R C o) (.slice (some ⟨w.heap.size + 1, 0, none⟩) N N) w') := fun f w' h1 h2 h3 => by
    unfold tabM
    rw [hN]
    exact ⟨some ⟨w.heap.size + 1, 0, none⟩, N, toL' N f, by rw [toL'_len], LN_tab (toL'_len _ _) (fun i hi => by rw [toL'_at hi]; exact h2 i hi), h1.grow (toL'_len _ _) (fun j hj => toL'_at hj), by rw [toL'_len]; exact Nat.le_refl _, fun a e => by cases e; show w.heap.size ≤ w.heap.size + 1; omega, h3⟩
  have HE : Hid (R * C = N) := hN
  clear hN
  go_enter Try.func46, Try.ntmps46
  go_wp2_with (go_at_call 58; refine (ccn _).mono ?_; rintro e w' ⟨rfl, h'⟩; subst w')
  have hst := vstoref Try.prog
  have HS0 : FillS w (((w.alloc (.cells #[.int .i64 0, .int .i64 0, .slice none 0 0] 24)).alloc (.cells (madeCells #[.float .f64 0] N) 31)).alloc (.cells #[.int .i64 R, .int .i64 C, .slice (some ⟨w.heap.size + 1, 0, none⟩) N N] 24)) R C N (fun _ => 0) := FillS.start w R C N _ _
  clear hmk ccn
  go_loopg [18] R (fun g i wr => ∃ (k : Nat) (f : Nat → Nat), k ≤ R ∧ g = R - k ∧ i = .int .i64 k ∧ Hid (∀ p, p < k * C → NR (o (p / C) (p % C)) (f p)) ∧ Hid (FillS w wr R C N f))
  case atStart => exact ⟨0, fun _ => 0, Nat.zero_le _, rfl, rfl, fun p hp => by omega, HS0⟩
  case round =>
    obtain ⟨k, f, hk, hg, rfl, hN, hF⟩ := hrel
    have HG : Hid (gk = R - k) := hg
    clear hg HS0
    by_cases hlt : k < R
    · have i1 : (k : Int) < (R : Int) := by omega
      go_wp2
      go_loopg [22] C (fun g j wv => ∃ (l : Nat) (f : Nat → Nat), l ≤ C ∧ g = C - l ∧ j = .int .i64 l ∧ Hid (∀ p, p < k * C + l → NR (o (p / C) (p % C)) (f p)) ∧ Hid (FillS w wv R C N f))
      case atStart => exact ⟨0, f, Nat.zero_le _, rfl, rfl, fun p hp => hN.out p (by omega), hF⟩
      case round =>
        clear hN hF f
        obtain ⟨l, f, hl, hg, rfl, hN, hF⟩ := hrel
        have HG2 : Hid (gk = C - l) := hg
        clear hg
        by_cases hlt2 : l < C
        · obtain ⟨q, hqq⟩ : ∃ q, k * C + l = q := ⟨_, rfl⟩
          have hqN : q < N := by rw [← hqq]; exact hq k l hlt hlt2
          have hqI : (q : Int) < (N : Int) := by omega
          have cp := hpl k l q hlt hlt2 hqq
          have HNX : Hid (∀ r, NR (o k l) r → ∀ p, p < k * C + (l + 1) → NR (o (p / C) (p % C)) (if p = q then r else f p)) := fun r hr => by rw [← hqq]; exact NR_next hlt2 hN.out hr
          have i2 : (l : Int) < (C : Int) := by omega
          have HFd := hF.out.drew
          have hcl2 := fun wq hb => hcl k l wq hlt hlt2 hb
          have HBx := HFd.below
          clear hqq hN hq hpl hcl HT HE
          have HC : ∀ w1, Below wr.drew.heap.size wr.drew w1 → w1.cell? ⟨w.heap.size + 1 + 1, 0, none⟩ = some (.int .i64 R) ∧ w1.cell? ⟨w.heap.size + 1 + 1, 1, none⟩ = some (.int .i64 C) ∧ w1.cell? ⟨w.heap.size + 1 + 1, 2, none⟩ = some (.slice (some ⟨w.heap.size + 1, 0, none⟩) N N) := fun w1 hb => by obtain ⟨x0, x1, x2, _⟩ := HFd.mbox.below hb; exact ⟨x0, x1, x2⟩
          have m0 := HC _ (Below.refl _ _)
          go_wp2
          go_region_held3 (fun w' => w'.cell? ⟨w.heap.size + 1 + 1, 0, none⟩ = some (.int .i64 R) ∧ w'.cell? ⟨w.heap.size + 1 + 1, 1, none⟩ = some (.int .i64 C) ∧ w'.cell? ⟨w.heap.size + 1 + 1, 2, none⟩ = some (.slice (some ⟨w.heap.size + 1, 0, none⟩) N N)) (go_keep)
            (first
              | (go_at_call 57; refine (cp _).mono ?_; rintro e w1 ⟨rfl, b1⟩; have m1 := HC _ b1; have HB1 := HBx.trans (b1.mono HBx.size))
              | (go_at_call 47; refine (hcl2 _ HB1).mono ?_; rintro e w2 ⟨r, rfl, hr, b2⟩; have b3 := b1.trans (b2.mono b1.size); have m2 := HC _ b3; have HF2 := HFd.later b3; have g2 := World.rowIs.cell HF2.row hqN; have g3 := World.rowIs.frozen HF2.row q))
          have HF3 := HF2.set hqN r
          go_wp2
          go_roundg (C - (l + 1))
          case measure => rw [HG2.out]; omega
          case rel => exact ⟨l + 1, fun p => if p = q then r else f p, by omega, rfl, by go_num, HNX.out r hr, HF3⟩
        · have el : l = C := by omega
          subst el
          have i2 : ¬ (l : Int) < (l : Int) := by omega
          have HNE : Hid (∀ p, p < (k + 1) * l → NR (o (p / l) (p % l)) (f p)) := fun p hp => hN.out p (by rw [Nat.succ_mul] at hp; exact hp)
          clear hN
          go_wp2
          go_roundg (R - (k + 1))
          case measure => rw [HG.out]; omega
          case rel => exact ⟨k + 1, f, by omega, rfl, by go_num, HNE, hF⟩
    · have ek : k = R := by omega
      subst ek
      have i1 : ¬ (k : Int) < (k : Int) := by omega
      obtain ⟨m0, m1, m2, _⟩ := hF.out.mbox
      obtain ⟨r0, r1, r2, s0, s1, s2, _⟩ := hF.out.res
      have hFin := fun x y z => HT.out f _ (hF.out.fin (x := x) (y := y) (z := z)).1 (fun p hp => hN.out p (by rw [HE.out]; exact hp)) (hF.out.fin (x := x) (y := y) (z := z)).2
      clear hN hcl hpl hq HT
      go_wp2
      exact bodyPost_ret (v := .agg #[.int .i64 k, .int .i64 C, .slice (some ⟨w.heap.size + 1, 0, none⟩) N N]) (by simp [results, Try.results46, go_sem, r0, r1, r2]) rfl ⟨_, rfl, hFin _ _ _⟩
set_option maxHeartbeats 2000000 in
theorem mfill_ident (o : Nat → Nat → Option Nat) (R C : Nat) (w : World) (hR : R ≤ 48) (hC : C ≤ 48) (hcl : ∀ (i j : Nat) (wr : World), i < R → j < C → Below w.heap.size w wr → Calls Try.prog 48 #[.int .i64 i, .int .i64 j] wr fun e w' => ∃ r, e = .returned (.float .f64 r) ∧ NR (o i j) r ∧ Below wr.heap.size wr w') :
    Calls Try.prog 46 #[.int .i64 R, .int .i64 C, .func (.func 48) #[] #[]] w fun e w' => ∃ v, e = .returned (.agg #[.int .i64 R, .int .i64 C, v]) ∧ GaveF w (tabM R C o) v w' := by
  obtain ⟨N, hN⟩ : ∃ N, R * C = N := ⟨_, rfl⟩
  have hNb : N ≤ 2304 := by rw [← hN]; exact mul48 hR hC
  have ccn := fun w => mcount_any R C N hR hC hN w
  have hpl := fun (i j p : Nat) (hi : i < R) (hj : j < C) (hp : i * C + j = p) W => mplace_any R C i j p N N (some ⟨w.heap.size + 1, 0, none⟩) (by omega) hC (by omega) hp W
  have hmk := run_make_row' (P := Try.prog) 22 31 (.float .f64 0) 8 Try.underlying22 Try.infoF rfl .i64 .i64 N (by omega) (by omega)
  have hq : ∀ i j, i < R → j < C → i * C + j < N := fun i j hi hj => by rw [← hN]; exact at_lt hi hj
  have HT : Hid (∀ f w', RRow w' (w.heap.size + 1) N f → (∀ p, p < N → NR (o (p / C) (p % C)) (f p)) → Below w.heap.size w w' → GaveF w (tabM R C o) (.slice (some ⟨w.heap.size + 1, 0, none⟩) N N) w') := fun f w' h1 h2 h3 => by
    unfold tabM
    rw [hN]
    exact ⟨some ⟨w.heap.size + 1, 0, none⟩, N, toL' N f, by rw [toL'_len], LN_tab (toL'_len _ _) (fun i hi => by rw [toL'_at hi]; exact h2 i hi), h1.grow (toL'_len _ _) (fun j hj => toL'_at hj), by rw [toL'_len]; exact Nat.le_refl _, fun a e => by cases e; show w.heap.size ≤ w.heap.size + 1; omega, h3⟩
  have HE : Hid (R * C = N) := hN
  clear hN
  go_enter Try.func46, Try.ntmps46
  go_wp2_with (go_at_call 58; refine (ccn _).mono ?_; rintro e w' ⟨rfl, h'⟩; subst w')
  have hst := vstoref Try.prog
  have HS0 : FillS w (((w.alloc (.cells #[.int .i64 0, .int .i64 0, .slice none 0 0] 24)).alloc (.cells (madeCells #[.float .f64 0] N) 31)).alloc (.cells #[.int .i64 R, .int .i64 C, .slice (some ⟨w.heap.size + 1, 0, none⟩) N N] 24)) R C N (fun _ => 0) := FillS.start w R C N _ _
  clear hmk ccn
  go_loopg [18] R (fun g i wr => ∃ (k : Nat) (f : Nat → Nat), k ≤ R ∧ g = R - k ∧ i = .int .i64 k ∧ Hid (∀ p, p < k * C → NR (o (p / C) (p % C)) (f p)) ∧ Hid (FillS w wr R C N f))
  case atStart => exact ⟨0, fun _ => 0, Nat.zero_le _, rfl, rfl, fun p hp => by omega, HS0⟩
  case round =>
    obtain ⟨k, f, hk, hg, rfl, hN, hF⟩ := hrel
    have HG : Hid (gk = R - k) := hg
    clear hg HS0
    by_cases hlt : k < R
    · have i1 : (k : Int) < (R : Int) := by omega
      go_wp2
      go_loopg [22] C (fun g j wv => ∃ (l : Nat) (f : Nat → Nat), l ≤ C ∧ g = C - l ∧ j = .int .i64 l ∧ Hid (∀ p, p < k * C + l → NR (o (p / C) (p % C)) (f p)) ∧ Hid (FillS w wv R C N f))
      case atStart => exact ⟨0, f, Nat.zero_le _, rfl, rfl, fun p hp => hN.out p (by omega), hF⟩
      case round =>
        clear hN hF f
        obtain ⟨l, f, hl, hg, rfl, hN, hF⟩ := hrel
        have HG2 : Hid (gk = C - l) := hg
        clear hg
        by_cases hlt2 : l < C
        · obtain ⟨q, hqq⟩ : ∃ q, k * C + l = q := ⟨_, rfl⟩
          have hqN : q < N := by rw [← hqq]; exact hq k l hlt hlt2
          have hqI : (q : Int) < (N : Int) := by omega
          have cp := hpl k l q hlt hlt2 hqq
          have HNX : Hid (∀ r, NR (o k l) r → ∀ p, p < k * C + (l + 1) → NR (o (p / C) (p % C)) (if p = q then r else f p)) := fun r hr => by rw [← hqq]; exact NR_next hlt2 hN.out hr
          have i2 : (l : Int) < (C : Int) := by omega
          have HFd := hF.out.drew
          have hcl2 := fun wq hb => hcl k l wq hlt hlt2 hb
          have HBx := HFd.below
          clear hqq hN hq hpl hcl HT HE
          have HC : ∀ w1, Below wr.drew.heap.size wr.drew w1 → w1.cell? ⟨w.heap.size + 1 + 1, 0, none⟩ = some (.int .i64 R) ∧ w1.cell? ⟨w.heap.size + 1 + 1, 1, none⟩ = some (.int .i64 C) ∧ w1.cell? ⟨w.heap.size + 1 + 1, 2, none⟩ = some (.slice (some ⟨w.heap.size + 1, 0, none⟩) N N) := fun w1 hb => by obtain ⟨x0, x1, x2, _⟩ := HFd.mbox.below hb; exact ⟨x0, x1, x2⟩
          have m0 := HC _ (Below.refl _ _)
          go_wp2
          go_region_held3 (fun w' => w'.cell? ⟨w.heap.size + 1 + 1, 0, none⟩ = some (.int .i64 R) ∧ w'.cell? ⟨w.heap.size + 1 + 1, 1, none⟩ = some (.int .i64 C) ∧ w'.cell? ⟨w.heap.size + 1 + 1, 2, none⟩ = some (.slice (some ⟨w.heap.size + 1, 0, none⟩) N N)) (go_keep)
            (first
              | (go_at_call 57; refine (cp _).mono ?_; rintro e w1 ⟨rfl, b1⟩; have m1 := HC _ b1; have HB1 := HBx.trans (b1.mono HBx.size))
              | (go_at_call 48; refine (hcl2 _ HB1).mono ?_; rintro e w2 ⟨r, rfl, hr, b2⟩; have b3 := b1.trans (b2.mono b1.size); have m2 := HC _ b3; have HF2 := HFd.later b3; have g2 := World.rowIs.cell HF2.row hqN; have g3 := World.rowIs.frozen HF2.row q))
          have HF3 := HF2.set hqN r
          go_wp2
          go_roundg (C - (l + 1))
          case measure => rw [HG2.out]; omega
          case rel => exact ⟨l + 1, fun p => if p = q then r else f p, by omega, rfl, by go_num, HNX.out r hr, HF3⟩
        · have el : l = C := by omega
          subst el
          have i2 : ¬ (l : Int) < (l : Int) := by omega
          have HNE : Hid (∀ p, p < (k + 1) * l → NR (o (p / l) (p % l)) (f p)) := fun p hp => hN.out p (by rw [Nat.succ_mul] at hp; exact hp)
          clear hN
          go_wp2
          go_roundg (R - (k + 1))
          case measure => rw [HG.out]; omega
          case rel => exact ⟨k + 1, f, by omega, rfl, by go_num, HNE, hF⟩
    · have ek : k = R := by omega
      subst ek
      have i1 : ¬ (k : Int) < (k : Int) := by omega
      obtain ⟨m0, m1, m2, _⟩ := hF.out.mbox
      obtain ⟨r0, r1, r2, s0, s1, s2, _⟩ := hF.out.res
      have hFin := fun x y z => HT.out f _ (hF.out.fin (x := x) (y := y) (z := z)).1 (fun p hp => hN.out p (by rw [HE.out]; exact hp)) (hF.out.fin (x := x) (y := y) (z := z)).2
      clear hN hcl hpl hq HT
      go_wp2
      exact bodyPost_ret (v := .agg #[.int .i64 k, .int .i64 C, .slice (some ⟨w.heap.size + 1, 0, none⟩) N N]) (by simp [results, Try.results46, go_sem, r0, r1, r2]) rfl ⟨_, rfl, hFin _ _ _⟩
set_option maxHeartbeats 2000000 in
theorem mfill_trans (o : Nat → Nat → Option Nat) (R C A : Nat) (w : World) (hR : R ≤ 48) (hC : C ≤ 48) (hcl : ∀ (i j : Nat) (wr : World), i < R → j < C → Below w.heap.size w wr → Calls Try.prog 64 #[.int .i64 i, .int .i64 j, .pointer (some ⟨A, 0, none⟩)] wr fun e w' => ∃ r, e = .returned (.float .f64 r) ∧ NR (o i j) r ∧ Below wr.heap.size wr w') :
    Calls Try.prog 46 #[.int .i64 R, .int .i64 C, .func (.func 64) #[] #[.pointer (some ⟨A, 0, none⟩)]] w fun e w' => ∃ v, e = .returned (.agg #[.int .i64 R, .int .i64 C, v]) ∧ GaveF w (tabM R C o) v w' := by
  obtain ⟨N, hN⟩ : ∃ N, R * C = N := ⟨_, rfl⟩
  have hNb : N ≤ 2304 := by rw [← hN]; exact mul48 hR hC
  have ccn := fun w => mcount_any R C N hR hC hN w
  have hpl := fun (i j p : Nat) (hi : i < R) (hj : j < C) (hp : i * C + j = p) W => mplace_any R C i j p N N (some ⟨w.heap.size + 1, 0, none⟩) (by omega) hC (by omega) hp W
  have hmk := run_make_row' (P := Try.prog) 22 31 (.float .f64 0) 8 Try.underlying22 Try.infoF rfl .i64 .i64 N (by omega) (by omega)
  have hq : ∀ i j, i < R → j < C → i * C + j < N := fun i j hi hj => by rw [← hN]; exact at_lt hi hj
  have HT : Hid (∀ f w', RRow w' (w.heap.size + 1) N f → (∀ p, p < N → NR (o (p / C) (p % C)) (f p)) → Below w.heap.size w w' → GaveF w (tabM R C o) (.slice (some ⟨w.heap.size + 1, 0, none⟩) N N) w') := fun f w' h1 h2 h3 => by
    unfold tabM
    rw [hN]
    exact ⟨some ⟨w.heap.size + 1, 0, none⟩, N, toL' N f, by rw [toL'_len], LN_tab (toL'_len _ _) (fun i hi => by rw [toL'_at hi]; exact h2 i hi), h1.grow (toL'_len _ _) (fun j hj => toL'_at hj), by rw [toL'_len]; exact Nat.le_refl _, fun a e => by cases e; show w.heap.size ≤ w.heap.size + 1; omega, h3⟩
  have HE : Hid (R * C = N) := hN
  clear hN
  go_enter Try.func46, Try.ntmps46
  go_wp2_with (go_at_call 58; refine (ccn _).mono ?_; rintro e w' ⟨rfl, h'⟩; subst w')
  have hst := vstoref Try.prog
  have HS0 : FillS w (((w.alloc (.cells #[.int .i64 0, .int .i64 0, .slice none 0 0] 24)).alloc (.cells (madeCells #[.float .f64 0] N) 31)).alloc (.cells #[.int .i64 R, .int .i64 C, .slice (some ⟨w.heap.size + 1, 0, none⟩) N N] 24)) R C N (fun _ => 0) := FillS.start w R C N _ _
  clear hmk ccn
  go_loopg [18] R (fun g i wr => ∃ (k : Nat) (f : Nat → Nat), k ≤ R ∧ g = R - k ∧ i = .int .i64 k ∧ Hid (∀ p, p < k * C → NR (o (p / C) (p % C)) (f p)) ∧ Hid (FillS w wr R C N f))
  case atStart => exact ⟨0, fun _ => 0, Nat.zero_le _, rfl, rfl, fun p hp => by omega, HS0⟩
  case round =>
    obtain ⟨k, f, hk, hg, rfl, hN, hF⟩ := hrel
    have HG : Hid (gk = R - k) := hg
    clear hg HS0
    by_cases hlt : k < R
    · have i1 : (k : Int) < (R : Int) := by omega
      go_wp2
      go_loopg [22] C (fun g j wv => ∃ (l : Nat) (f : Nat → Nat), l ≤ C ∧ g = C - l ∧ j = .int .i64 l ∧ Hid (∀ p, p < k * C + l → NR (o (p / C) (p % C)) (f p)) ∧ Hid (FillS w wv R C N f))
      case atStart => exact ⟨0, f, Nat.zero_le _, rfl, rfl, fun p hp => hN.out p (by omega), hF⟩
      case round =>
        clear hN hF f
        obtain ⟨l, f, hl, hg, rfl, hN, hF⟩ := hrel
        have HG2 : Hid (gk = C - l) := hg
        clear hg
        by_cases hlt2 : l < C
        · obtain ⟨q, hqq⟩ : ∃ q, k * C + l = q := ⟨_, rfl⟩
          have hqN : q < N := by rw [← hqq]; exact hq k l hlt hlt2
          have hqI : (q : Int) < (N : Int) := by omega
          have cp := hpl k l q hlt hlt2 hqq
          have HNX : Hid (∀ r, NR (o k l) r → ∀ p, p < k * C + (l + 1) → NR (o (p / C) (p % C)) (if p = q then r else f p)) := fun r hr => by rw [← hqq]; exact NR_next hlt2 hN.out hr
          have i2 : (l : Int) < (C : Int) := by omega
          have HFd := hF.out.drew
          have hcl2 := fun wq hb => hcl k l wq hlt hlt2 hb
          have HBx := HFd.below
          clear hqq hN hq hpl hcl HT HE
          have HC : ∀ w1, Below wr.drew.heap.size wr.drew w1 → w1.cell? ⟨w.heap.size + 1 + 1, 0, none⟩ = some (.int .i64 R) ∧ w1.cell? ⟨w.heap.size + 1 + 1, 1, none⟩ = some (.int .i64 C) ∧ w1.cell? ⟨w.heap.size + 1 + 1, 2, none⟩ = some (.slice (some ⟨w.heap.size + 1, 0, none⟩) N N) := fun w1 hb => by obtain ⟨x0, x1, x2, _⟩ := HFd.mbox.below hb; exact ⟨x0, x1, x2⟩
          have m0 := HC _ (Below.refl _ _)
          go_wp2
          go_region_held3 (fun w' => w'.cell? ⟨w.heap.size + 1 + 1, 0, none⟩ = some (.int .i64 R) ∧ w'.cell? ⟨w.heap.size + 1 + 1, 1, none⟩ = some (.int .i64 C) ∧ w'.cell? ⟨w.heap.size + 1 + 1, 2, none⟩ = some (.slice (some ⟨w.heap.size + 1, 0, none⟩) N N)) (go_keep)
            (first
              | (go_at_call 57; refine (cp _).mono ?_; rintro e w1 ⟨rfl, b1⟩; have m1 := HC _ b1; have HB1 := HBx.trans (b1.mono HBx.size))
              | (go_at_call 64; refine (hcl2 _ HB1).mono ?_; rintro e w2 ⟨r, rfl, hr, b2⟩; have b3 := b1.trans (b2.mono b1.size); have m2 := HC _ b3; have HF2 := HFd.later b3; have g2 := World.rowIs.cell HF2.row hqN; have g3 := World.rowIs.frozen HF2.row q))
          have HF3 := HF2.set hqN r
          go_wp2
          go_roundg (C - (l + 1))
          case measure => rw [HG2.out]; omega
          case rel => exact ⟨l + 1, fun p => if p = q then r else f p, by omega, rfl, by go_num, HNX.out r hr, HF3⟩
        · have el : l = C := by omega
          subst el
          have i2 : ¬ (l : Int) < (l : Int) := by omega
          have HNE : Hid (∀ p, p < (k + 1) * l → NR (o (p / l) (p % l)) (f p)) := fun p hp => hN.out p (by rw [Nat.succ_mul] at hp; exact hp)
          clear hN
          go_wp2
          go_roundg (R - (k + 1))
          case measure => rw [HG.out]; omega
          case rel => exact ⟨k + 1, f, by omega, rfl, by go_num, HNE, hF⟩
    · have ek : k = R := by omega
      subst ek
      have i1 : ¬ (k : Int) < (k : Int) := by omega
      obtain ⟨m0, m1, m2, _⟩ := hF.out.mbox
      obtain ⟨r0, r1, r2, s0, s1, s2, _⟩ := hF.out.res
      have hFin := fun x y z => HT.out f _ (hF.out.fin (x := x) (y := y) (z := z)).1 (fun p hp => hN.out p (by rw [HE.out]; exact hp)) (hF.out.fin (x := x) (y := y) (z := z)).2
      clear hN hcl hpl hq HT
      go_wp2
      exact bodyPost_ret (v := .agg #[.int .i64 k, .int .i64 C, .slice (some ⟨w.heap.size + 1, 0, none⟩) N N]) (by simp [results, Try.results46, go_sem, r0, r1, r2]) rfl ⟨_, rfl, hFin _ _ _⟩
set_option maxHeartbeats 2000000 in
theorem mfill_sub (o : Nat → Nat → Option Nat) (R C A B : Nat) (w : World) (hR : R ≤ 48) (hC : C ≤ 48) (hcl : ∀ (i j : Nat) (wr : World), i < R → j < C → Below w.heap.size w wr → Calls Try.prog 65 #[.int .i64 i, .int .i64 j, .pointer (some ⟨A, 0, none⟩), .pointer (some ⟨B, 0, none⟩)] wr fun e w' => ∃ r, e = .returned (.float .f64 r) ∧ NR (o i j) r ∧ Below wr.heap.size wr w') :
    Calls Try.prog 46 #[.int .i64 R, .int .i64 C, .func (.func 65) #[] #[.pointer (some ⟨A, 0, none⟩), .pointer (some ⟨B, 0, none⟩)]] w fun e w' => ∃ v, e = .returned (.agg #[.int .i64 R, .int .i64 C, v]) ∧ GaveF w (tabM R C o) v w' := by
  obtain ⟨N, hN⟩ : ∃ N, R * C = N := ⟨_, rfl⟩
  have hNb : N ≤ 2304 := by rw [← hN]; exact mul48 hR hC
  have ccn := fun w => mcount_any R C N hR hC hN w
  have hpl := fun (i j p : Nat) (hi : i < R) (hj : j < C) (hp : i * C + j = p) W => mplace_any R C i j p N N (some ⟨w.heap.size + 1, 0, none⟩) (by omega) hC (by omega) hp W
  have hmk := run_make_row' (P := Try.prog) 22 31 (.float .f64 0) 8 Try.underlying22 Try.infoF rfl .i64 .i64 N (by omega) (by omega)
  have hq : ∀ i j, i < R → j < C → i * C + j < N := fun i j hi hj => by rw [← hN]; exact at_lt hi hj
  have HT : Hid (∀ f w', RRow w' (w.heap.size + 1) N f → (∀ p, p < N → NR (o (p / C) (p % C)) (f p)) → Below w.heap.size w w' → GaveF w (tabM R C o) (.slice (some ⟨w.heap.size + 1, 0, none⟩) N N) w') := fun f w' h1 h2 h3 => by
    unfold tabM
    rw [hN]
    exact ⟨some ⟨w.heap.size + 1, 0, none⟩, N, toL' N f, by rw [toL'_len], LN_tab (toL'_len _ _) (fun i hi => by rw [toL'_at hi]; exact h2 i hi), h1.grow (toL'_len _ _) (fun j hj => toL'_at hj), by rw [toL'_len]; exact Nat.le_refl _, fun a e => by cases e; show w.heap.size ≤ w.heap.size + 1; omega, h3⟩
  have HE : Hid (R * C = N) := hN
  clear hN
  go_enter Try.func46, Try.ntmps46
  go_wp2_with (go_at_call 58; refine (ccn _).mono ?_; rintro e w' ⟨rfl, h'⟩; subst w')
  have hst := vstoref Try.prog
  have HS0 : FillS w (((w.alloc (.cells #[.int .i64 0, .int .i64 0, .slice none 0 0] 24)).alloc (.cells (madeCells #[.float .f64 0] N) 31)).alloc (.cells #[.int .i64 R, .int .i64 C, .slice (some ⟨w.heap.size + 1, 0, none⟩) N N] 24)) R C N (fun _ => 0) := FillS.start w R C N _ _
  clear hmk ccn
  go_loopg [18] R (fun g i wr => ∃ (k : Nat) (f : Nat → Nat), k ≤ R ∧ g = R - k ∧ i = .int .i64 k ∧ Hid (∀ p, p < k * C → NR (o (p / C) (p % C)) (f p)) ∧ Hid (FillS w wr R C N f))
  case atStart => exact ⟨0, fun _ => 0, Nat.zero_le _, rfl, rfl, fun p hp => by omega, HS0⟩
  case round =>
    obtain ⟨k, f, hk, hg, rfl, hN, hF⟩ := hrel
    have HG : Hid (gk = R - k) := hg
    clear hg HS0
    by_cases hlt : k < R
    · have i1 : (k : Int) < (R : Int) := by omega
      go_wp2
      go_loopg [22] C (fun g j wv => ∃ (l : Nat) (f : Nat → Nat), l ≤ C ∧ g = C - l ∧ j = .int .i64 l ∧ Hid (∀ p, p < k * C + l → NR (o (p / C) (p % C)) (f p)) ∧ Hid (FillS w wv R C N f))
      case atStart => exact ⟨0, f, Nat.zero_le _, rfl, rfl, fun p hp => hN.out p (by omega), hF⟩
      case round =>
        clear hN hF f
        obtain ⟨l, f, hl, hg, rfl, hN, hF⟩ := hrel
        have HG2 : Hid (gk = C - l) := hg
        clear hg
        by_cases hlt2 : l < C
        · obtain ⟨q, hqq⟩ : ∃ q, k * C + l = q := ⟨_, rfl⟩
          have hqN : q < N := by rw [← hqq]; exact hq k l hlt hlt2
          have hqI : (q : Int) < (N : Int) := by omega
          have cp := hpl k l q hlt hlt2 hqq
          have HNX : Hid (∀ r, NR (o k l) r → ∀ p, p < k * C + (l + 1) → NR (o (p / C) (p % C)) (if p = q then r else f p)) := fun r hr => by rw [← hqq]; exact NR_next hlt2 hN.out hr
          have i2 : (l : Int) < (C : Int) := by omega
          have HFd := hF.out.drew
          have hcl2 := fun wq hb => hcl k l wq hlt hlt2 hb
          have HBx := HFd.below
          clear hqq hN hq hpl hcl HT HE
          have HC : ∀ w1, Below wr.drew.heap.size wr.drew w1 → w1.cell? ⟨w.heap.size + 1 + 1, 0, none⟩ = some (.int .i64 R) ∧ w1.cell? ⟨w.heap.size + 1 + 1, 1, none⟩ = some (.int .i64 C) ∧ w1.cell? ⟨w.heap.size + 1 + 1, 2, none⟩ = some (.slice (some ⟨w.heap.size + 1, 0, none⟩) N N) := fun w1 hb => by obtain ⟨x0, x1, x2, _⟩ := HFd.mbox.below hb; exact ⟨x0, x1, x2⟩
          have m0 := HC _ (Below.refl _ _)
          go_wp2
          go_region_held3 (fun w' => w'.cell? ⟨w.heap.size + 1 + 1, 0, none⟩ = some (.int .i64 R) ∧ w'.cell? ⟨w.heap.size + 1 + 1, 1, none⟩ = some (.int .i64 C) ∧ w'.cell? ⟨w.heap.size + 1 + 1, 2, none⟩ = some (.slice (some ⟨w.heap.size + 1, 0, none⟩) N N)) (go_keep)
            (first
              | (go_at_call 57; refine (cp _).mono ?_; rintro e w1 ⟨rfl, b1⟩; have m1 := HC _ b1; have HB1 := HBx.trans (b1.mono HBx.size))
              | (go_at_call 65; refine (hcl2 _ HB1).mono ?_; rintro e w2 ⟨r, rfl, hr, b2⟩; have b3 := b1.trans (b2.mono b1.size); have m2 := HC _ b3; have HF2 := HFd.later b3; have g2 := World.rowIs.cell HF2.row hqN; have g3 := World.rowIs.frozen HF2.row q))
          have HF3 := HF2.set hqN r
          go_wp2
          go_roundg (C - (l + 1))
          case measure => rw [HG2.out]; omega
          case rel => exact ⟨l + 1, fun p => if p = q then r else f p, by omega, rfl, by go_num, HNX.out r hr, HF3⟩
        · have el : l = C := by omega
          subst el
          have i2 : ¬ (l : Int) < (l : Int) := by omega
          have HNE : Hid (∀ p, p < (k + 1) * l → NR (o (p / l) (p % l)) (f p)) := fun p hp => hN.out p (by rw [Nat.succ_mul] at hp; exact hp)
          clear hN
          go_wp2
          go_roundg (R - (k + 1))
          case measure => rw [HG.out]; omega
          case rel => exact ⟨k + 1, f, by omega, rfl, by go_num, HNE, hF⟩
    · have ek : k = R := by omega
      subst ek
      have i1 : ¬ (k : Int) < (k : Int) := by omega
      obtain ⟨m0, m1, m2, _⟩ := hF.out.mbox
      obtain ⟨r0, r1, r2, s0, s1, s2, _⟩ := hF.out.res
      have hFin := fun x y z => HT.out f _ (hF.out.fin (x := x) (y := y) (z := z)).1 (fun p hp => hN.out p (by rw [HE.out]; exact hp)) (hF.out.fin (x := x) (y := y) (z := z)).2
      clear hN hcl hpl hq HT
      go_wp2
      exact bodyPost_ret (v := .agg #[.int .i64 k, .int .i64 C, .slice (some ⟨w.heap.size + 1, 0, none⟩) N N]) (by simp [results, Try.results46, go_sem, r0, r1, r2]) rfl ⟨_, rfl, hFin _ _ _⟩
set_option maxHeartbeats 2000000 in
theorem mfill_mul (o : Nat → Nat → Option Nat) (R C A B : Nat) (w : World) (hR : R ≤ 48) (hC : C ≤ 48) (hcl : ∀ (i j : Nat) (wr : World), i < R → j < C → Below w.heap.size w wr → Calls Try.prog 49 #[.int .i64 i, .int .i64 j, .pointer (some ⟨A, 0, none⟩), .pointer (some ⟨B, 0, none⟩)] wr fun e w' => ∃ r, e = .returned (.float .f64 r) ∧ NR (o i j) r ∧ Below wr.heap.size wr w') :
    Calls Try.prog 46 #[.int .i64 R, .int .i64 C, .func (.func 49) #[] #[.pointer (some ⟨A, 0, none⟩), .pointer (some ⟨B, 0, none⟩)]] w fun e w' => ∃ v, e = .returned (.agg #[.int .i64 R, .int .i64 C, v]) ∧ GaveF w (tabM R C o) v w' := by
  obtain ⟨N, hN⟩ : ∃ N, R * C = N := ⟨_, rfl⟩
  have hNb : N ≤ 2304 := by rw [← hN]; exact mul48 hR hC
  have ccn := fun w => mcount_any R C N hR hC hN w
  have hpl := fun (i j p : Nat) (hi : i < R) (hj : j < C) (hp : i * C + j = p) W => mplace_any R C i j p N N (some ⟨w.heap.size + 1, 0, none⟩) (by omega) hC (by omega) hp W
  have hmk := run_make_row' (P := Try.prog) 22 31 (.float .f64 0) 8 Try.underlying22 Try.infoF rfl .i64 .i64 N (by omega) (by omega)
  have hq : ∀ i j, i < R → j < C → i * C + j < N := fun i j hi hj => by rw [← hN]; exact at_lt hi hj
  have HT : Hid (∀ f w', RRow w' (w.heap.size + 1) N f → (∀ p, p < N → NR (o (p / C) (p % C)) (f p)) → Below w.heap.size w w' → GaveF w (tabM R C o) (.slice (some ⟨w.heap.size + 1, 0, none⟩) N N) w') := fun f w' h1 h2 h3 => by
    unfold tabM
    rw [hN]
    exact ⟨some ⟨w.heap.size + 1, 0, none⟩, N, toL' N f, by rw [toL'_len], LN_tab (toL'_len _ _) (fun i hi => by rw [toL'_at hi]; exact h2 i hi), h1.grow (toL'_len _ _) (fun j hj => toL'_at hj), by rw [toL'_len]; exact Nat.le_refl _, fun a e => by cases e; show w.heap.size ≤ w.heap.size + 1; omega, h3⟩
  have HE : Hid (R * C = N) := hN
  clear hN
  go_enter Try.func46, Try.ntmps46
  go_wp2_with (go_at_call 58; refine (ccn _).mono ?_; rintro e w' ⟨rfl, h'⟩; subst w')
  have hst := vstoref Try.prog
  have HS0 : FillS w (((w.alloc (.cells #[.int .i64 0, .int .i64 0, .slice none 0 0] 24)).alloc (.cells (madeCells #[.float .f64 0] N) 31)).alloc (.cells #[.int .i64 R, .int .i64 C, .slice (some ⟨w.heap.size + 1, 0, none⟩) N N] 24)) R C N (fun _ => 0) := FillS.start w R C N _ _
  clear hmk ccn
  go_loopg [18] R (fun g i wr => ∃ (k : Nat) (f : Nat → Nat), k ≤ R ∧ g = R - k ∧ i = .int .i64 k ∧ Hid (∀ p, p < k * C → NR (o (p / C) (p % C)) (f p)) ∧ Hid (FillS w wr R C N f))
  case atStart => exact ⟨0, fun _ => 0, Nat.zero_le _, rfl, rfl, fun p hp => by omega, HS0⟩
  case round =>
    obtain ⟨k, f, hk, hg, rfl, hN, hF⟩ := hrel
    have HG : Hid (gk = R - k) := hg
    clear hg HS0
    by_cases hlt : k < R
    · have i1 : (k : Int) < (R : Int) := by omega
      go_wp2
      go_loopg [22] C (fun g j wv => ∃ (l : Nat) (f : Nat → Nat), l ≤ C ∧ g = C - l ∧ j = .int .i64 l ∧ Hid (∀ p, p < k * C + l → NR (o (p / C) (p % C)) (f p)) ∧ Hid (FillS w wv R C N f))
      case atStart => exact ⟨0, f, Nat.zero_le _, rfl, rfl, fun p hp => hN.out p (by omega), hF⟩
      case round =>
        clear hN hF f
        obtain ⟨l, f, hl, hg, rfl, hN, hF⟩ := hrel
        have HG2 : Hid (gk = C - l) := hg
        clear hg
        by_cases hlt2 : l < C
        · obtain ⟨q, hqq⟩ : ∃ q, k * C + l = q := ⟨_, rfl⟩
          have hqN : q < N := by rw [← hqq]; exact hq k l hlt hlt2
          have hqI : (q : Int) < (N : Int) := by omega
          have cp := hpl k l q hlt hlt2 hqq
          have HNX : Hid (∀ r, NR (o k l) r → ∀ p, p < k * C + (l + 1) → NR (o (p / C) (p % C)) (if p = q then r else f p)) := fun r hr => by rw [← hqq]; exact NR_next hlt2 hN.out hr
          have i2 : (l : Int) < (C : Int) := by omega
          have HFd := hF.out.drew
          have hcl2 := fun wq hb => hcl k l wq hlt hlt2 hb
          have HBx := HFd.below
          clear hqq hN hq hpl hcl HT HE
          have HC : ∀ w1, Below wr.drew.heap.size wr.drew w1 → w1.cell? ⟨w.heap.size + 1 + 1, 0, none⟩ = some (.int .i64 R) ∧ w1.cell? ⟨w.heap.size + 1 + 1, 1, none⟩ = some (.int .i64 C) ∧ w1.cell? ⟨w.heap.size + 1 + 1, 2, none⟩ = some (.slice (some ⟨w.heap.size + 1, 0, none⟩) N N) := fun w1 hb => by obtain ⟨x0, x1, x2, _⟩ := HFd.mbox.below hb; exact ⟨x0, x1, x2⟩
          have m0 := HC _ (Below.refl _ _)
          go_wp2
          go_region_held3 (fun w' => w'.cell? ⟨w.heap.size + 1 + 1, 0, none⟩ = some (.int .i64 R) ∧ w'.cell? ⟨w.heap.size + 1 + 1, 1, none⟩ = some (.int .i64 C) ∧ w'.cell? ⟨w.heap.size + 1 + 1, 2, none⟩ = some (.slice (some ⟨w.heap.size + 1, 0, none⟩) N N)) (go_keep)
            (first
              | (go_at_call 57; refine (cp _).mono ?_; rintro e w1 ⟨rfl, b1⟩; have m1 := HC _ b1; have HB1 := HBx.trans (b1.mono HBx.size))
              | (go_at_call 49; refine (hcl2 _ HB1).mono ?_; rintro e w2 ⟨r, rfl, hr, b2⟩; have b3 := b1.trans (b2.mono b1.size); have m2 := HC _ b3; have HF2 := HFd.later b3; have g2 := World.rowIs.cell HF2.row hqN; have g3 := World.rowIs.frozen HF2.row q))
          have HF3 := HF2.set hqN r
          go_wp2
          go_roundg (C - (l + 1))
          case measure => rw [HG2.out]; omega
          case rel => exact ⟨l + 1, fun p => if p = q then r else f p, by omega, rfl, by go_num, HNX.out r hr, HF3⟩
        · have el : l = C := by omega
          subst el
          have i2 : ¬ (l : Int) < (l : Int) := by omega
          have HNE : Hid (∀ p, p < (k + 1) * l → NR (o (p / l) (p % l)) (f p)) := fun p hp => hN.out p (by rw [Nat.succ_mul] at hp; exact hp)
          clear hN
          go_wp2
          go_roundg (R - (k + 1))
          case measure => rw [HG.out]; omega
          case rel => exact ⟨k + 1, f, by omega, rfl, by go_num, HNE, hF⟩
    · have ek : k = R := by omega
      subst ek
      have i1 : ¬ (k : Int) < (k : Int) := by omega
      obtain ⟨m0, m1, m2, _⟩ := hF.out.mbox
      obtain ⟨r0, r1, r2, s0, s1, s2, _⟩ := hF.out.res
      have hFin := fun x y z => HT.out f _ (hF.out.fin (x := x) (y := y) (z := z)).1 (fun p hp => hN.out p (by rw [HE.out]; exact hp)) (hF.out.fin (x := x) (y := y) (z := z)).2
      clear hN hcl hpl hq HT
      go_wp2
      exact bodyPost_ret (v := .agg #[.int .i64 k, .int .i64 C, .slice (some ⟨w.heap.size + 1, 0, none⟩) N N]) (by simp [results, Try.results46, go_sem, r0, r1, r2]) rfl ⟨_, rfl, hFin _ _ _⟩
end Go.Proofs.Ythbnffnoldmcnaa
